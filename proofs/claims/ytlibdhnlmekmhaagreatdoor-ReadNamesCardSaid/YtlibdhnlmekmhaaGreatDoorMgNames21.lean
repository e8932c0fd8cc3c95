/- What the cards of the reader's statements share: the variables as the row lists them, and a world that holds them. | The contracts of the parser's small methods: look, next, ends, take, skip, open. | The contracts of skip, skipComment, open, stray, check, symbol. -/
import Derived.Test.YtlibdhnlmekmhaaGreatDoorCards
import Derived.Test.YtlibdhnlmekmhaaGreatDoorTie
import Derived.Lib.LaidIn
import Derived.Lib.LaidU8T
import Derived.PinnedBridge
import Derived.Deep.DeepHandedRow
import Derived.Deep.DeepWitnessRowRef
import Derived.ProofKit
import Derived.SizedLaws
import Derived.OpenShut
import Derived.ShutString
import Derived.ChangeOld
import Derived.Below
import Derived.WalkLawsBesides
import Derived.IntWalk
import Derived.LoopTactic
import Derived.Outline
import Derived.Test.YtlibdhnlmekmhaaGreatDoorMgNames20
/- What the cards of the reader's statements share: the variables as the row lists them, and a world that holds them. -/
section
namespace Go.Proofs.YtlibdhnlmekmhaaGreatDoor.Frame
open Go.ChangeShapes Go.WideShapes Go.ChangeAt Go.RowKit Go.Lib Go.Shelf
open Go.Proofs.YtlibdhnlmekmhaaGreatDoor.Strs Go.Proofs.YtlibdhnlmekmhaaGreatDoor.Clone Go.Proofs.YtlibdhnlmekmhaaGreatDoor.Rd

theorem own : ownKnob Tryz.prog.godebug = none := by kernel_rfl

theorem accept_eq : (Rows.laid_unicode_utf8_acceptRanges : DataW Unit) = acceptData := by kernel_rfl

/-- An interface value that reads as data. -/
theorem iface_cells {P : Program} {w : World} {fuel : Nat} {t : TypeId} {ms : Array (String × TypeId)} {cs : List Value} {d : DataW Unit} {p : List MemPlace} (ht : P.underlying t = some (.interface ms)) (h : DataW.trod (fun _ => ()) P w 0 (fun _ => true) false fuel t cs = some (d, p)) :
    ∃ ev, cs = [ev] ∧ (ev = .nilIface ∨ ∃ te pe, ev = .iface te pe) := by
  cases fuel with
  | zero => simp [DataW.trod] at h
  | succ n =>
    unfold DataW.trod at h
    rw [ht] at h
    match cs with
    | [] => simp at h
    | [ev] => cases ev <;> first | exact ⟨_, rfl, .inl rfl⟩ | exact ⟨_, rfl, .inr ⟨_, _, rfl⟩⟩ | (simp at h)
    | _ :: _ :: _ => simp at h
/-- What a row's list gives. -/
theorem sys {W : World} {l : List (String × DataW Unit)} (hl : l = Rows.readNamesRow.laid) (h : laidMet Tryz.prog l W) : Rd.Sys W := by
  subst hl
  have h4 : VarReads Tryz.prog W _ Rows.laid_unicode_utf8_acceptRanges := Lib.laidMet.reads h (.tail _ (.tail _ (.tail _ (.head _))))
  have h5 : VarReads Tryz.prog W _ Rows.laid_strconv_ErrRange := Lib.laidMet.reads h (.tail _ (.tail _ (.tail _ (.tail _ (.head _)))))
  have h3 : VarReads Tryz.prog W _ Rows.laid_unicode_utf8_first := Lib.laidMet.reads h (.tail _ (.tail _ (.tail _ (.tail _ (.tail _ (.tail _ (.head _)))))))
  rw [accept_eq] at h4
  rw [show Rows.laid_unicode_utf8_first = firstData from Pinned.utf8First_eq] at h3
  refine ⟨utf8Tabs_of_readsT (U8Types.of196 Tryz.laysValid) ⟨by kernel_rfl, by kernel_rfl, by kernel_rfl, by kernel_rfl, by kernel_rfl, by kernel_rfl, by kernel_rfl⟩ h3 h4, ?_⟩
  obtain ⟨g, t, cs, fuel, p, hg, ht, hv, hr⟩ := h5
  have hg' : g = 4 := Option.some.inj (hg.symm.trans (by kernel_rfl))
  subst hg'
  have ht' : t = 173 := Option.some.inj (ht.symm.trans (by kernel_rfl))
  subst ht'
  obtain ⟨ev, hcs, hev⟩ := iface_cells Tryz.underlying173 hr
  refine ⟨ev, ?_, hev⟩
  unfold World.var? at hv
  rw [hg] at hv
  simp only [Option.bind_some] at hv
  cases hh : W.heap[4]? with
  | none => rw [hh] at hv; cases hv
  | some o =>
    rw [hh] at hv
    cases o with
    | cells cs' ty fr =>
      simp only [Option.some.injEq] at hv
      subst hv
      have hc0 : cs'[0]? = some ev := by
        rw [← Array.getElem?_toList, hcs]
        rfl
      simp [World.cell?, hh, hc0]
    | _ => cases hv

/-- A world for the witness: the settled one, the variables holding what their text lays. -/
noncomputable def laidWorld (os : Os) : World :=
  let w0 := World.holding Tryz.prog os ⟨#[], #[], []⟩
  let put (h : Array Obj) (g : Nat) (cs : Array Value) : Array Obj := h.modify g fun
    | .cells _ t frozen => .cells cs t frozen
    | o => o
  let lits (k : IntKind) (d : DataW Unit) : Array Value := match d with
    | .agg l => (l.map fun | .lit (.int _ z) => Value.int k z | _ => Value.int k 0).toArray
    | _ => #[]
  let txt (d : DataW Unit) : Value := match d with
    | .iface _ (.ptr (.agg [.lit (.string s)])) => .string ⟨s.toArray⟩
    | _ => .nilIface
  let h1 := put w0.heap 1 (Lib.firstTab.map fun z => Value.int .u8 z).toArray
  let h2 := put h1 2 ((List.range 16).flatMap fun i => [Value.int .u8 (Lib.accLo i), Value.int .u8 (Lib.accHi i)]).toArray
  let h3 := put h2 6 (lits .u8 Rows.laid_math_bits_deBruijn32tab)
  let h4 := put h3 7 (lits .u8 Rows.laid_math_bits_deBruijn64tab)
  let h5 := put h4 5 (lits .u64 Rows.laid_internal_strconv_uint64pow10)
  let n := h5.size
  let h6 := put h5 4 #[.iface 256 (.pointer (some ⟨n, 0, none⟩))]
  let h7 := put h6 3 #[.iface 256 (.pointer (some ⟨n + 1, 0, none⟩))]
  let h8 := (h7.push (.cells #[txt Rows.laid_strconv_ErrRange] 258)).push (.cells #[txt Rows.laid_strconv_ErrSyntax] 258)
  { w0 with heap := h8 }
theorem laid_met (os : Os) (args : Array Value) {l : List (String × DataW Unit)} (hl : l = Rows.readNamesRow.laid) : laidMet Tryz.prog l ((laidWorld os).forCall (fun _ _ => 0) ⟨#[], args, []⟩).memory := by
  subst hl
  exact (LaidIn.of_run (l := Rows.readNamesRow.laid) (List.range 64) 8 (by kernel_rfl) (by kernel_rfl) (by kernel_rfl) (by kernel_rfl)).met

theorem laidOut : laidOutB Tryz.prog = true := by kernel_rfl
end Go.Proofs.YtlibdhnlmekmhaaGreatDoor.Frame
end

/- The contracts of the parser's small methods: look, next, ends, take, skip, open. -/
section
namespace Go.Proofs.YtlibdhnlmekmhaaGreatDoor.Rd
set_option maxRecDepth 100000
open Go.RowKit
open Go.Proofs.YtlibdhnlmekmhaaGreatDoor.Own Go.Proofs.YtlibdhnlmekmhaaGreatDoor.Hp Go.Proofs.YtlibdhnlmekmhaaGreatDoor.Rep Go.Proofs.YtlibdhnlmekmhaaGreatDoor.Get Go.Proofs.YtlibdhnlmekmhaaGreatDoor.Utf

theorem blank_any (c : Int) (w : World) : Calls Tryz.prog 21 #[.int .i64 c] w fun e w' => e = .returned (.bool (blankB c)) ∧ w = w' := by
  go_enter Tryz.func21, Tryz.ntmps21
  go_wp2
  all_goals (go_ret; exact ⟨by simp_all [blankB], rfl⟩)
theorem delim_any (c : Int) (w : World) : Calls Tryz.prog 22 #[.int .i64 c] w fun e w' => e = .returned (.bool (delimB c)) ∧ w = w' := by
  have HB := Lib.hid (blank_any c)
  obtain ⟨B, hB⟩ : ∃ B, blankB c = B := ⟨_, rfl⟩
  rw [hB] at HB
  unfold delimB
  rw [hB]
  clear hB
  go_enter Tryz.func22, Tryz.ntmps22
  go_wp2_with (go_at_call 21; refine (HB.out _).mono ?_; rintro e w' ⟨rfl, rfl⟩)
  all_goals (go_ret; exact ⟨by simp_all, rfl⟩)

/-- The character at the head, -1 at the end. -/
def nx : List Int → Int
  | [] => -1
  | c :: _ => c
theorem nx_drop (l : List Int) (i : Nat) : nx (l.drop i) = if h : i < l.length then l[i] else -1 := by
  split
  · rename_i h
    rw [List.drop_eq_getElem_cons h]
    rfl
  · rename_i h
    rw [List.drop_of_length_le (by omega)]
    rfl
theorem look_core (p g n cap i : Nat) (v : Int) (w : World) (c2 : w.cell? ⟨p, 2, none⟩ = some (.slice (some ⟨g, 0, none⟩) n cap)) (hn : n ≤ 1000000) (hi : i ≤ 2000000) (h : i < n → w.cell? ⟨g, i, none⟩ = some (.int .i64 v)) (hv : ¬ i < n → v = -1) :
    Calls Tryz.prog 131 #[pptr p, .int .i64 (i : Int)] w fun e w' => e = .returned (.int .i64 v) ∧ w = w' := by
  by_cases hlt : i < n
  · have hz : ¬ (n : Int) ≤ (i : Int) := by omega
    have c := h hlt
    clear h hv
    go_enter Tryz.func131, Tryz.ntmps131
    go_wp2
    go_ret
    exact ⟨rfl, rfl⟩
  · have hz : (n : Int) ≤ (i : Int) := by omega
    have hv1 := hv hlt
    subst hv1
    clear h hv
    go_enter Tryz.func131, Tryz.ntmps131
    go_wp2
    go_ret
    exact ⟨rfl, rfl⟩
theorem PS.look {X : Fx} {w : World} {a op : Nat} {s : St} {F : Nat → Prop} (h : PS X w a op s F) (hX : X.Ok) (j : Nat) (hj : j ≤ 1000000) (z : Int) (hz : z = (a : Int) + j) :
    Calls Tryz.prog 131 #[pptr X.p, .int .i64 z] w fun e w' => e = .returned (.int .i64 (nx (s.rest.drop j))) ∧ w = w' := by
  obtain ⟨_, _, c2, _, _, _⟩ := Blk.six h.blk
  have e : s.rest.drop j = X.l.drop (a + j) := by rw [← h.at_, List.drop_drop]
  have hle := h.le
  have hs := hX.short
  rw [e, show z = ((a + j : Nat) : Int) by omega]
  refine look_core X.p X.g X.l.length X.cap (a + j) _ w c2 hX.short (by omega) (fun hi => ?_) (fun hi => ?_)
  · refine h.row.cell (a + j) _ ?_
    rw [nx_drop, dif_pos hi, List.getElem?_map, List.getElem?_eq_getElem hi]
    rfl
  · rw [nx_drop, dif_neg hi]
theorem PS.next {X : Fx} {w : World} {a op : Nat} {s : St} {F : Nat → Prop} (h : PS X w a op s F) (hX : X.Ok) :
    Calls Tryz.prog 67 #[pptr X.p] w fun e w' => e = .returned (.int .i64 (nx s.rest)) ∧ w = w' := by
  have HL := Lib.hid (h.look hX 0 (by omega) (a : Int) (by omega))
  rw [List.drop_zero] at HL
  obtain ⟨_, _, _, c3, _, _⟩ := Blk.six h.blk
  generalize nx s.rest = v at *
  clear h
  go_enter Tryz.func67, Tryz.ntmps67
  go_wp2_with (go_at_call 131; refine HL.out.mono ?_; rintro e w' ⟨rfl, rfl⟩)
  go_ret
  exact ⟨rfl, rfl⟩
theorem PS.ends {X : Fx} {w : World} {a op : Nat} {s : St} {F : Nat → Prop} (h : PS X w a op s F) (hX : X.Ok) (j : Nat) (hj : j ≤ 1000000) (z : Int) (hz : z = (a : Int) + j) :
    Calls Tryz.prog 169 #[pptr X.p, .int .i64 z] w fun e w' => e = .returned (.bool (endsB (s.rest.drop j))) ∧ w = w' := by
  have HL := Lib.hid (h.look hX j hj z hz)
  have hmem : ∀ c ∈ s.rest.drop j, 0 ≤ c := fun c hc => by
    have h1 := List.mem_of_mem_drop hc
    rw [← h.at_] at h1
    exact (hX.chars c (List.mem_of_mem_drop h1)).1
  clear h hX
  cases hr : s.rest.drop j with
  | nil =>
    rw [hr] at HL
    have HL2 : Hid (Calls Tryz.prog 131 #[pptr X.p, .int .i64 z] w fun e w' => e = .returned (.int .i64 (-1)) ∧ w = w') := HL
    clear hz HL hmem hr
    go_enter Tryz.func169, Tryz.ntmps169
    go_wp2_with (go_at_call 131; refine HL2.out.mono ?_; rintro e w' ⟨rfl, rfl⟩)
    go_ret
    exact ⟨rfl, rfl⟩
  | cons c r =>
    rw [hr] at HL hmem
    have h0 := hmem c (by simp)
    have hne : (c == -1) = false := by simp; omega
    have HL2 : Hid (Calls Tryz.prog 131 #[pptr X.p, .int .i64 z] w fun e w' => e = .returned (.int .i64 c) ∧ w = w') := HL
    have HD := Lib.hid (delim_any c)
    have e1 : endsB (c :: r) = delimB c := rfl
    rw [e1]
    generalize delimB c = D at *
    clear hz HL hmem hr h0 e1
    go_enter Tryz.func169, Tryz.ntmps169
    go_wp2_with (first
      | (go_at_call 131; refine HL2.out.mono ?_; rintro e w' ⟨rfl, rfl⟩)
      | (go_at_call 22; refine (HD.out _).mono ?_; rintro e w' ⟨rfl, rfl⟩))
    go_ret
    exact ⟨rfl, rfl⟩
/-- take at the end of the input. -/
theorem PS.takeEnd {X : Fx} {w : World} {a op : Nat} {s : St} {F : Nat → Prop} (h : PS X w a op s F) (hX : X.Ok) (hr : s.rest = []) :
    Calls Tryz.prog 171 #[pptr X.p] w fun e w' => e = faultE 5 (X.l.length - 0) ∧ w = w' := by
  have hn := h.n
  rw [hr] at hn
  have HN := h.next hX
  rw [hr] at HN
  have HN2 : Hid (Calls Tryz.prog 67 #[pptr X.p] w fun e w' => e = .returned (.int .i64 (-1)) ∧ w = w') := HN
  obtain ⟨_, _, _, c3, _, _⟩ := Blk.six h.blk
  rw [show X.l.length - 0 = a by simp at hn; omega]
  clear h hn hr HN
  unfold faultE
  go_enter Tryz.func171, Tryz.ntmps171
  go_wp2_with (go_at_call 67; refine HN2.out.mono ?_; rintro e w' ⟨rfl, rfl⟩)
  exact ⟨rfl, rfl, rfl⟩
theorem drop_tail {l r : List Int} {a : Nat} {c : Int} (h : l.drop a = c :: r) : l.drop (a + 1) = r ∧ a + 1 ≤ l.length := by
  constructor
  · rw [← List.tail_drop, h]
    rfl
  · have := congrArg List.length h
    simp at this
    omega
theorem PS.take {X : Fx} {w : World} {a op : Nat} {s : St} {F : Nat → Prop} (h : PS X w a op s F) (hX : X.Ok) {c : Int} {r : List Int} (hr : s.rest = c :: r) :
    Calls Tryz.prog 171 #[pptr X.p] w fun e w' => e = .returned (.int .i64 c) ∧ PS X w' (a + 1) op ⟨r, s.ob, s.tb⟩ F ∧ PAfter X w w' F F := by
  have HN := h.next hX
  rw [hr] at HN
  have HN2 : Hid (Calls Tryz.prog 67 #[pptr X.p] w fun e w' => e = .returned (.int .i64 c) ∧ w = w') := HN
  obtain ⟨_, _, _, c3, _, _⟩ := Blk.six h.blk
  have f3 := h.blk.free 3
  have hat := h.at_
  rw [hr] at hat
  obtain ⟨hd, hle⟩ := drop_tail hat
  have hm := h.move hX (a + 1) hle (.int .i64 ((a : Int) + 1)) (by simp)
  rw [hd] at hm
  have HM := Lib.hid hm
  have h0 : 0 ≤ c := (hX.chars c (List.mem_of_mem_drop (by rw [hat]; simp))).1
  have hne : (c == -1) = false := by simp; omega
  have hs := hX.short
  have hb : (a : Int) + 1 ≤ 1000000 := by omega
  clear h hr HN hat hd hm h0 hX hs hle
  go_enter Tryz.func171, Tryz.ntmps171
  go_wp2_with (go_at_call 67; refine HN2.out.mono ?_; rintro e w' ⟨rfl, rfl⟩)
  go_ret
  exact ⟨rfl, HM.out⟩
end Go.Proofs.YtlibdhnlmekmhaaGreatDoor.Rd
end

/- The contracts of skip, skipComment, open, stray, check, symbol. -/
section
namespace Go.Proofs.YtlibdhnlmekmhaaGreatDoor.Rd
set_option maxRecDepth 100000
open Go.RowKit
open Go.Proofs.YtlibdhnlmekmhaaGreatDoor.Own Go.Proofs.YtlibdhnlmekmhaaGreatDoor.Hp Go.Proofs.YtlibdhnlmekmhaaGreatDoor.Rep Go.Proofs.YtlibdhnlmekmhaaGreatDoor.Get Go.Proofs.YtlibdhnlmekmhaaGreatDoor.Utf

/-- What a comment leaves: the end of its line. -/
def cmtF : List Int → List Int
  | [] => []
  | c :: r => if c = 10 then c :: r else cmtF r
theorem skip_cmt : ∀ l, skipF true l = skipF false (cmtF l)
  | [] => rfl
  | c :: r => by
    rw [skipF, cmtF]
    split
    · rename_i e
      subst e
      rfl
    · exact skip_cmt r
theorem cmtF_suf : ∀ l, cmtF l <:+ l
  | [] => List.suffix_refl _
  | c :: r => by
    rw [cmtF]
    split
    · exact List.suffix_refl _
    · exact (cmtF_suf r).trans (List.suffix_cons _ _)
/-- The position that a parser's cell tells. -/
def atOf (w : World) (p : Nat) : Nat := match w.cell? ⟨p, 3, none⟩ with
  | some (.int _ z) => z.toNat
  | _ => 0
theorem PS.atIs {X : Fx} {w : World} {a op : Nat} {s : St} {F : Nat → Prop} (h : PS X w a op s F) : atOf w X.p = a := by
  obtain ⟨_, _, _, c3, _, _⟩ := Blk.six h.blk
  unfold Rd.atOf
  rw [c3]
  simp
/-- The parser at some end of what was left. -/
def At (X : Fx) (w wr : World) (op : Nat) (s : St) (F : Nat → Prop) (P : List Int → Prop) : Prop := ∃ (a : Nat) (r : List Int), PS X wr a op ⟨r, s.ob, s.tb⟩ F ∧ PAfter X w wr F F ∧ P r
theorem At.start {X : Fx} {w : World} {a op : Nat} {s : St} {F : Nat → Prop} {P : List Int → Prop} (h : PS X w a op s F) (hP : P s.rest) : At X w w op s F P := ⟨a, s.rest, h, .refl _ _ _, hP⟩

set_option maxHeartbeats 1000000 in
theorem PS.skipComment {X : Fx} {w : World} {a op : Nat} {s : St} {F : Nat → Prop} (h : PS X w a op s F) (hX : X.Ok) :
    Calls Tryz.prog 130 #[pptr X.p] w fun e w' => e = .returned (.tuple #[]) ∧ At X w w' op s F (fun r => r = cmtF s.rest) := by
  have HA := Lib.hid (At.start (P := fun r => cmtF r = cmtF s.rest) h rfl)
  have HX := Lib.hid hX
  clear h hX
  go_enter Tryz.func130, Tryz.ntmps130
  go_wp2_with fail
  go_loopw [] (fun wr => At X w wr op s F (fun r => cmtF r = cmtF s.rest)) (fun wr => X.l.length - atOf wr X.p)
  case atStart => exact HA.out
  case round =>
    obtain ⟨a1, r1, hP, hA, hr⟩ := hrel
    have HN := hP.next HX.out
    cases r1 with
    | nil =>
      have HN2 : Hid (Calls Tryz.prog 67 #[pptr X.p] wr fun e w' => e = .returned (.int .i64 (-1)) ∧ wr = w') := HN
      have HF := Lib.hid (show At X w wr op s F (fun r => r = cmtF s.rest) from ⟨a1, _, hP, hA, hr⟩)
      clear HN hP hA hr HA
      go_wp2_with (go_at_call 67; refine HN2.out.mono ?_; rintro e w' ⟨rfl, rfl⟩)
      go_end0
      exact ⟨rfl, HF.out⟩
    | cons c r =>
      have HN2 : Hid (Calls Tryz.prog 67 #[pptr X.p] wr fun e w' => e = .returned (.int .i64 c) ∧ wr = w') := HN
      have hat := hP.at_
      obtain ⟨hd, hle⟩ := drop_tail hat
      have h0 : 0 ≤ c := (HX.out.chars c (List.mem_of_mem_drop (by rw [hat]; simp))).1
      by_cases e10 : c = 10
      · subst e10
        have HF := Lib.hid (show At X w wr op s F (fun r => r = cmtF s.rest) from ⟨a1, _, hP, hA, by rw [← hr, cmtF, if_pos rfl]⟩)
        clear HN hP hA hr HA hat hd hle h0
        go_wp2_with (go_at_call 67; refine HN2.out.mono ?_; rintro e w' ⟨rfl, rfl⟩)
        go_end0
        exact ⟨rfl, HF.out⟩
      · have n1 : (c != 10) = true := by simpa using e10
        have n2 : (c != -1) = true := by simp; omega
        obtain ⟨_, _, _, c3, _, _⟩ := Blk.six hP.blk
        have f3 := hP.blk.free 3
        have hm := hP.move HX.out (a1 + 1) hle (.int .i64 ((a1 : Int) + 1)) (by simp)
        rw [hd] at hm
        have HM := Lib.hid (show At X w (wr.setCell ⟨X.p, 3, none⟩ (.int .i64 ((a1 : Int) + 1))) op s F (fun r => cmtF r = cmtF s.rest) from ⟨a1 + 1, r, hm.1, hA.trans hm.2, by rw [← hr, cmtF, if_neg e10]⟩)
        have HP1 := Lib.hid hP.atIs
        have HP2 := Lib.hid hm.1.atIs
        have hs := HX.out.short
        have hb : (a1 : Int) + 1 ≤ 1000000 := by omega
        have HL := Lib.hid hle
        clear HN hP hA hr HA hat hd h0 hm hle e10 hs
        go_wp2_with (go_at_call 67; refine HN2.out.mono ?_; rintro e w' ⟨rfl, rfl⟩)
        go_roundw
        case rel => exact HM.out
        case measure => have h1 := HP1.out; have h2 := HP2.out; have h3 := HL.out; rw [h1, h2]; omega

set_option maxHeartbeats 1000000 in
theorem PS.skip {X : Fx} {w : World} {a op : Nat} {s : St} {F : Nat → Prop} (h : PS X w a op s F) (hX : X.Ok) :
    Calls Tryz.prog 66 #[pptr X.p] w fun e w' => e = .returned (.tuple #[]) ∧ At X w w' op s F (fun r => r = skipF false s.rest) := by
  have HA := Lib.hid (At.start (P := fun r => skipF false r = skipF false s.rest) h rfl)
  have HX := Lib.hid hX
  clear h hX
  go_enter Tryz.func66, Tryz.ntmps66
  go_wp2_with fail
  go_loopw [] (fun wr => At X w wr op s F (fun r => skipF false r = skipF false s.rest)) (fun wr => X.l.length - atOf wr X.p)
  case atStart => exact HA.out
  case round =>
    obtain ⟨a1, r1, hP, hA, hr⟩ := hrel
    have HN := hP.next HX.out
    cases r1 with
    | nil =>
      have HN2 : Hid (Calls Tryz.prog 67 #[pptr X.p] wr fun e w' => e = .returned (.int .i64 (-1)) ∧ wr = w') := HN
      have HF := Lib.hid (show At X w wr op s F (fun r => r = skipF false s.rest) from ⟨a1, _, hP, hA, hr⟩)
      have HB := Lib.hid (blank_any (-1))
      rw [show blankB (-1) = false from rfl] at HB
      clear HN hP hA hr HA
      go_wp2_with (first
        | (go_at_call 67; refine HN2.out.mono ?_; rintro e w' ⟨rfl, rfl⟩)
        | (go_at_call 21; refine (HB.out _).mono ?_; rintro e w' ⟨rfl, rfl⟩))
      refine bodyPost_ret (results_none rfl _ _ _) rfl ?_
      exact ⟨rfl, HF.out⟩
    | cons c r =>
      have HN2 : Hid (Calls Tryz.prog 67 #[pptr X.p] wr fun e w' => e = .returned (.int .i64 c) ∧ wr = w') := HN
      have hat := hP.at_
      obtain ⟨hd, hle⟩ := drop_tail hat
      by_cases e59 : c = 59
      · subst e59
        have HC := Lib.hid (hP.skipComment HX.out)
        have hr2 : skipF false (cmtF (59 :: r)) = skipF false s.rest := by
          rw [← hr, skipF, if_pos rfl, skip_cmt]
          rfl
        have HP1 := Lib.hid hP.atIs
        have HW := Lib.hid (show ∀ w', At X wr w' op ⟨59 :: r, s.ob, s.tb⟩ F (fun q => q = cmtF (59 :: r)) → At X w w' op s F (fun q => skipF false q = skipF false s.rest) ∧ X.l.length - atOf w' X.p < X.l.length - a1 from fun w' ⟨a2, r2, hP2, hA2, hr3⟩ => by
          subst hr3
          refine ⟨⟨a2, _, hP2, hA.trans hA2, hr2⟩, ?_⟩
          rw [hP2.atIs]
          have n1 := hP.n
          have n2 := hP2.n
          have n3 : (cmtF (59 :: r)).length ≤ r.length := (show cmtF (59 :: r) <:+ r from by rw [cmtF, if_neg (by decide)]; exact cmtF_suf r).length_le
          simp only [List.length_cons] at n1 n2
          omega)
        clear HN hP hA hr HA hat hd hle hr2
        go_wp2_with (first
          | (go_at_call 67; refine HN2.out.mono ?_; rintro e w' ⟨rfl, rfl⟩)
          | (go_at_call 130; refine HC.out.mono ?_; rintro e w2 ⟨rfl, hw2⟩))
        go_roundw
        case rel => exact (HW.out _ hw2).1
        case measure => have h1 := HP1.out; have h2 := (HW.out _ hw2).2; rw [h1]; exact h2
      · have n1 : (c == 59) = false := by simpa using e59
        have HB := Lib.hid (blank_any c)
        cases hb : blankB c with
        | true =>
          rw [hb] at HB
          obtain ⟨_, _, _, c3, _, _⟩ := Blk.six hP.blk
          have f3 := hP.blk.free 3
          have hm := hP.move HX.out (a1 + 1) hle (.int .i64 ((a1 : Int) + 1)) (by simp)
          rw [hd] at hm
          have HM := Lib.hid (show At X w (wr.setCell ⟨X.p, 3, none⟩ (.int .i64 ((a1 : Int) + 1))) op s F (fun q => skipF false q = skipF false s.rest) from ⟨a1 + 1, r, hm.1, hA.trans hm.2, by rw [← hr, skipF.eq_def false (c :: r)]; simp only; rw [if_neg e59, if_pos hb]⟩)
          have HP1 := Lib.hid hP.atIs
          have HP2 := Lib.hid hm.1.atIs
          have hs := HX.out.short
          have hb2 : (a1 : Int) + 1 ≤ 1000000 := by omega
          have HL := Lib.hid hle
          clear HN hP hA hr HA hat hd hm hle hs e59 hb
          go_wp2_with (first
            | (go_at_call 67; refine HN2.out.mono ?_; rintro e w' ⟨rfl, rfl⟩)
            | (go_at_call 21; refine (HB.out _).mono ?_; rintro e w' ⟨rfl, rfl⟩))
          go_roundw
          case rel => exact HM.out
          case measure => have h1 := HP1.out; have h2 := HP2.out; have h3 := HL.out; rw [h1, h2]; omega
        | false =>
          rw [hb] at HB
          have HF := Lib.hid (show At X w wr op s F (fun q => q = skipF false s.rest) from ⟨a1, _, hP, hA, by rw [← hr]; exact (skipF_stop e59 hb).symm⟩)
          clear HN hP hA hr HA hat hd hle e59 hb
          go_wp2_with (first
            | (go_at_call 67; refine HN2.out.mono ?_; rintro e w' ⟨rfl, rfl⟩)
            | (go_at_call 21; refine (HB.out _).mono ?_; rintro e w' ⟨rfl, rfl⟩))
          refine bodyPost_ret (results_none rfl _ _ _) rfl ?_
          exact ⟨rfl, HF.out⟩

/-- open where as many are open as may be. -/
theorem PS.openFull {X : Fx} {w : World} {a op : Nat} {s : St} {F : Nat → Prop} (h : PS X w a op s F) (ho : op = 200) (n : Int) :
    Calls Tryz.prog 164 #[pptr X.p, .int .i64 n] w fun e w' => e = faultE 12 (X.l.length - s.rest.length) ∧ w = w' := by
  rw [h.pos]
  subst ho
  obtain ⟨_, _, _, c3, c4', _⟩ := Blk.six h.blk
  have c4 : w.cell? ⟨X.p, 4, none⟩ = some (.int .i64 200) := c4'
  clear h c4'
  unfold faultE
  go_enter Tryz.func164, Tryz.ntmps164
  go_wp2
  exact ⟨rfl, rfl, rfl⟩
theorem PS.open {X : Fx} {w : World} {a op : Nat} {s : St} {F : Nat → Prop} (h : PS X w a op s F) (hX : X.Ok) (ho : op ≠ 200) (n : Nat) (hn : n ≤ s.rest.length) :
    Calls Tryz.prog 164 #[pptr X.p, .int .i64 (n : Int)] w fun e w' => e = .returned (.int .i64 (a : Int)) ∧ PS X w' (a + n) (op + 1) ⟨s.rest.drop n, s.ob, s.tb⟩ F ∧ PAfter X w w' F F := by
  have hnn := h.n
  have hop := h.opl
  have h1 := h.nest hX (op + 1) (by omega) (.int .i64 ((op : Int) + 1)) (by simp)
  have h2 := h1.1.move hX (a + n) (by omega) (.int .i64 ((a : Int) + (n : Int))) (by simp)
  have ed : X.l.drop (a + n) = s.rest.drop n := by rw [← h.at_, List.drop_drop]
  rw [ed] at h2
  have HF := Lib.hid (And.intro h2.1 (h1.2.trans h2.2))
  obtain ⟨_, _, _, c3, c4, _⟩ := Blk.six h.blk
  obtain ⟨_, _, _, d3, _, _⟩ := Blk.six h1.1.blk
  have f4 := h.blk.free 4
  have f3 := h.blk.free 3
  have g3 := h1.1.blk.free 3
  have hne : ((op : Int) == 200) = false := by simp; omega
  have hb1 : (op : Int) + 1 ≤ 200 := by omega
  have hs := hX.short
  have hb2 : (a : Int) + n ≤ 1000000 := by omega
  clear h h1 h2 ed hX hnn hop hn ho hs
  go_enter Tryz.func164, Tryz.ntmps164
  go_wp2
  go_ret
  exact ⟨rfl, HF.out⟩
theorem PS.stray {X : Fx} {w : World} {a op : Nat} {s : St} {F : Nat → Prop} (h : PS X w a op s F) :
    Calls Tryz.prog 122 #[pptr X.p] w fun e w' => e = faultE 5 (X.l.length - s.rest.length) ∧ Below w.heap.size w w' := by
  rw [h.pos]
  have h1 := h.alloc (.cells #[.int .i64 0, .int .i64 0] 28)
  obtain ⟨_, _, _, c3, _, _⟩ := Blk.six h1.blk
  clear h h1
  unfold faultE
  go_enter Tryz.func122, Tryz.ntmps122
  go_wp2
  exact ⟨rfl, rfl, (Below.refl _ _).alloc (Nat.le_refl _) _⟩
theorem check_ok (k : Int) (w : World) : Calls Tryz.prog 120 #[.int .i64 0, .int .i64 k] w fun e w' => e = .returned (.tuple #[]) ∧ w = w' := by
  go_enter Tryz.func120, Tryz.ntmps120
  go_wp2
  go_end0
  exact ⟨rfl, rfl⟩
theorem check_err (c : Int) (hc : c ≠ 0) (k : Nat) (w : World) : Calls Tryz.prog 120 #[.int .i64 c, .int .i64 (k : Int)] w fun e w' => e = faultE c k ∧ w = w' := by
  have hne : (c != 0) = true := by simpa using hc
  unfold faultE
  go_enter Tryz.func120, Tryz.ntmps120
  go_wp2
  exact ⟨rfl, rfl, rfl⟩
theorem symbol_any (n : Int) (w : World) : Calls Tryz.prog 194 #[.int .i64 n] w fun e w' => e = .returned (wd (1, n)) ∧ Below w.heap.size w w' := by
  go_enter Tryz.func194, Tryz.ntmps194
  go_wp2
  refine bodyPost_ret (v := wd (1, n)) (by simp [results, Tryz.results194, go_sem]) rfl ⟨rfl, ?_⟩
  exact (Below.refl _ _).alloc (Nat.le_refl _) _
end Go.Proofs.YtlibdhnlmekmhaaGreatDoor.Rd
end
