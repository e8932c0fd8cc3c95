/- The contracts of the parser's small methods: look, next, ends, take, skip, open. | The contracts of skip, skipComment, open, stray, check, symbol. | Numerals: their characters, their bytes, and what strconv.Atoi and strings.Trim make of them. -/
import Derived.WalkLawsBesides
import Derived.IntWalk
import Derived.LoopTactic
import Derived.Outline
import Derived.Lib.AtoiAllCases
import Derived.Lib.SlTrimSet
import Derived.Test.YtlibdhnlmekmhaaGreatDoorMh23
import Derived.Test.YtlibdhnlmekmhaaGreatDoorMh24
/- The contracts of the parser's small methods: look, next, ends, take, skip, open. -/
section
namespace Go.Proofs.YtlibdhnlmekmhaaGreatDoor.Rd
set_option maxRecDepth 100000
open Go.RowKit
open Go.Proofs.YtlibdhnlmekmhaaGreatDoor.Own Go.Proofs.YtlibdhnlmekmhaaGreatDoor.Hp Go.Proofs.YtlibdhnlmekmhaaGreatDoor.Rep Go.Proofs.YtlibdhnlmekmhaaGreatDoor.Get Go.Proofs.YtlibdhnlmekmhaaGreatDoor.Utf

theorem blank_any (c : Int) (w : World) : Calls Tryz.prog 21 #[.int .i64 c] w fun e w' => e = .returned (.bool (blankB c)) ∧ w = w' := by
  go_enter Tryz.func21, Tryz.ntmps21
  go_wp2
  all_goals (go_ret; exact ⟨by simp_all [blankB], rfl⟩)
theorem delim_any (c : Int) (w : World) : Calls Tryz.prog 22 #[.int .i64 c] w fun e w' => e = .returned (.bool (delimB c)) ∧ w = w' := by
  have HB := Lib.hid (blank_any c)
  obtain ⟨B, hB⟩ : ∃ B, blankB c = B := ⟨_, rfl⟩
  rw [hB] at HB
  unfold delimB
  rw [hB]
  clear hB
  go_enter Tryz.func22, Tryz.ntmps22
  go_wp2_with (go_at_call 21; refine (HB.out _).mono ?_; rintro e w' ⟨rfl, rfl⟩)
  all_goals (go_ret; exact ⟨by simp_all, rfl⟩)

/-- The character at the head, -1 at the end. -/
def nx : List Int → Int
  | [] => -1
  | c :: _ => c
theorem nx_drop (l : List Int) (i : Nat) : nx (l.drop i) = if h : i < l.length then l[i] else -1 := by
  split
  · rename_i h
    rw [List.drop_eq_getElem_cons h]
    rfl
  · rename_i h
    rw [List.drop_of_length_le (by omega)]
    rfl
theorem look_core (p g n cap i : Nat) (v : Int) (w : World) (c2 : w.cell? ⟨p, 2, none⟩ = some (.slice (some ⟨g, 0, none⟩) n cap)) (hn : n ≤ 1000000) (hi : i ≤ 2000000) (h : i < n → w.cell? ⟨g, i, none⟩ = some (.int .i64 v)) (hv : ¬ i < n → v = -1) :
    Calls Tryz.prog 131 #[pptr p, .int .i64 (i : Int)] w fun e w' => e = .returned (.int .i64 v) ∧ w = w' := by
  by_cases hlt : i < n
  · have hz : ¬ (n : Int) ≤ (i : Int) := by omega
    have c := h hlt
    clear h hv
    go_enter Tryz.func131, Tryz.ntmps131
    go_wp2
    go_ret
    exact ⟨rfl, rfl⟩
  · have hz : (n : Int) ≤ (i : Int) := by omega
    have hv1 := hv hlt
    subst hv1
    clear h hv
    go_enter Tryz.func131, Tryz.ntmps131
    go_wp2
    go_ret
    exact ⟨rfl, rfl⟩
theorem PS.look {X : Fx} {w : World} {a op : Nat} {s : St} {F : Nat → Prop} (h : PS X w a op s F) (hX : X.Ok) (j : Nat) (hj : j ≤ 1000000) (z : Int) (hz : z = (a : Int) + j) :
    Calls Tryz.prog 131 #[pptr X.p, .int .i64 z] w fun e w' => e = .returned (.int .i64 (nx (s.rest.drop j))) ∧ w = w' := by
  obtain ⟨_, _, c2, _, _, _⟩ := Blk.six h.blk
  have e : s.rest.drop j = X.l.drop (a + j) := by rw [← h.at_, List.drop_drop]
  have hle := h.le
  have hs := hX.short
  rw [e, show z = ((a + j : Nat) : Int) by omega]
  refine look_core X.p X.g X.l.length X.cap (a + j) _ w c2 hX.short (by omega) (fun hi => ?_) (fun hi => ?_)
  · refine h.row.cell (a + j) _ ?_
    rw [nx_drop, dif_pos hi, List.getElem?_map, List.getElem?_eq_getElem hi]
    rfl
  · rw [nx_drop, dif_neg hi]
theorem PS.next {X : Fx} {w : World} {a op : Nat} {s : St} {F : Nat → Prop} (h : PS X w a op s F) (hX : X.Ok) :
    Calls Tryz.prog 67 #[pptr X.p] w fun e w' => e = .returned (.int .i64 (nx s.rest)) ∧ w = w' := by
  have HL := Lib.hid (h.look hX 0 (by omega) (a : Int) (by omega))
  rw [List.drop_zero] at HL
  obtain ⟨_, _, _, c3, _, _⟩ := Blk.six h.blk
  generalize nx s.rest = v at *
  clear h
  go_enter Tryz.func67, Tryz.ntmps67
  go_wp2_with (go_at_call 131; refine HL.out.mono ?_; rintro e w' ⟨rfl, rfl⟩)
  go_ret
  exact ⟨rfl, rfl⟩
theorem PS.ends {X : Fx} {w : World} {a op : Nat} {s : St} {F : Nat → Prop} (h : PS X w a op s F) (hX : X.Ok) (j : Nat) (hj : j ≤ 1000000) (z : Int) (hz : z = (a : Int) + j) :
    Calls Tryz.prog 169 #[pptr X.p, .int .i64 z] w fun e w' => e = .returned (.bool (endsB (s.rest.drop j))) ∧ w = w' := by
  have HL := Lib.hid (h.look hX j hj z hz)
  have hmem : ∀ c ∈ s.rest.drop j, 0 ≤ c := fun c hc => by
    have h1 := List.mem_of_mem_drop hc
    rw [← h.at_] at h1
    exact (hX.chars c (List.mem_of_mem_drop h1)).1
  clear h hX
  cases hr : s.rest.drop j with
  | nil =>
    rw [hr] at HL
    have HL2 : Hid (Calls Tryz.prog 131 #[pptr X.p, .int .i64 z] w fun e w' => e = .returned (.int .i64 (-1)) ∧ w = w') := HL
    clear hz HL hmem hr
    go_enter Tryz.func169, Tryz.ntmps169
    go_wp2_with (go_at_call 131; refine HL2.out.mono ?_; rintro e w' ⟨rfl, rfl⟩)
    go_ret
    exact ⟨rfl, rfl⟩
  | cons c r =>
    rw [hr] at HL hmem
    have h0 := hmem c (by simp)
    have hne : (c == -1) = false := by simp; omega
    have HL2 : Hid (Calls Tryz.prog 131 #[pptr X.p, .int .i64 z] w fun e w' => e = .returned (.int .i64 c) ∧ w = w') := HL
    have HD := Lib.hid (delim_any c)
    have e1 : endsB (c :: r) = delimB c := rfl
    rw [e1]
    generalize delimB c = D at *
    clear hz HL hmem hr h0 e1
    go_enter Tryz.func169, Tryz.ntmps169
    go_wp2_with (first
      | (go_at_call 131; refine HL2.out.mono ?_; rintro e w' ⟨rfl, rfl⟩)
      | (go_at_call 22; refine (HD.out _).mono ?_; rintro e w' ⟨rfl, rfl⟩))
    go_ret
    exact ⟨rfl, rfl⟩
/-- take at the end of the input. -/
theorem PS.takeEnd {X : Fx} {w : World} {a op : Nat} {s : St} {F : Nat → Prop} (h : PS X w a op s F) (hX : X.Ok) (hr : s.rest = []) :
    Calls Tryz.prog 171 #[pptr X.p] w fun e w' => e = faultE 5 (X.l.length - 0) ∧ w = w' := by
  have hn := h.n
  rw [hr] at hn
  have HN := h.next hX
  rw [hr] at HN
  have HN2 : Hid (Calls Tryz.prog 67 #[pptr X.p] w fun e w' => e = .returned (.int .i64 (-1)) ∧ w = w') := HN
  obtain ⟨_, _, _, c3, _, _⟩ := Blk.six h.blk
  rw [show X.l.length - 0 = a by simp at hn; omega]
  clear h hn hr HN
  unfold faultE
  go_enter Tryz.func171, Tryz.ntmps171
  go_wp2_with (go_at_call 67; refine HN2.out.mono ?_; rintro e w' ⟨rfl, rfl⟩)
  exact ⟨rfl, rfl, rfl⟩
theorem drop_tail {l r : List Int} {a : Nat} {c : Int} (h : l.drop a = c :: r) : l.drop (a + 1) = r ∧ a + 1 ≤ l.length := by
  constructor
  · rw [← List.tail_drop, h]
    rfl
  · have := congrArg List.length h
    simp at this
    omega
theorem PS.take {X : Fx} {w : World} {a op : Nat} {s : St} {F : Nat → Prop} (h : PS X w a op s F) (hX : X.Ok) {c : Int} {r : List Int} (hr : s.rest = c :: r) :
    Calls Tryz.prog 171 #[pptr X.p] w fun e w' => e = .returned (.int .i64 c) ∧ PS X w' (a + 1) op ⟨r, s.ob, s.tb⟩ F ∧ PAfter X w w' F F := by
  have HN := h.next hX
  rw [hr] at HN
  have HN2 : Hid (Calls Tryz.prog 67 #[pptr X.p] w fun e w' => e = .returned (.int .i64 c) ∧ w = w') := HN
  obtain ⟨_, _, _, c3, _, _⟩ := Blk.six h.blk
  have f3 := h.blk.free 3
  have hat := h.at_
  rw [hr] at hat
  obtain ⟨hd, hle⟩ := drop_tail hat
  have hm := h.move hX (a + 1) hle (.int .i64 ((a : Int) + 1)) (by simp)
  rw [hd] at hm
  have HM := Lib.hid hm
  have h0 : 0 ≤ c := (hX.chars c (List.mem_of_mem_drop (by rw [hat]; simp))).1
  have hne : (c == -1) = false := by simp; omega
  have hs := hX.short
  have hb : (a : Int) + 1 ≤ 1000000 := by omega
  clear h hr HN hat hd hm h0 hX hs hle
  go_enter Tryz.func171, Tryz.ntmps171
  go_wp2_with (go_at_call 67; refine HN2.out.mono ?_; rintro e w' ⟨rfl, rfl⟩)
  go_ret
  exact ⟨rfl, HM.out⟩
end Go.Proofs.YtlibdhnlmekmhaaGreatDoor.Rd
end

/- The contracts of skip, skipComment, open, stray, check, symbol. -/
section
namespace Go.Proofs.YtlibdhnlmekmhaaGreatDoor.Rd
set_option maxRecDepth 100000
open Go.RowKit
open Go.Proofs.YtlibdhnlmekmhaaGreatDoor.Own Go.Proofs.YtlibdhnlmekmhaaGreatDoor.Hp Go.Proofs.YtlibdhnlmekmhaaGreatDoor.Rep Go.Proofs.YtlibdhnlmekmhaaGreatDoor.Get Go.Proofs.YtlibdhnlmekmhaaGreatDoor.Utf

/-- What a comment leaves: the end of its line. -/
def cmtF : List Int → List Int
  | [] => []
  | c :: r => if c = 10 then c :: r else cmtF r
theorem skip_cmt : ∀ l, skipF true l = skipF false (cmtF l)
  | [] => rfl
  | c :: r => by
    rw [skipF, cmtF]
    split
    · rename_i e
      subst e
      rfl
    · exact skip_cmt r
theorem cmtF_suf : ∀ l, cmtF l <:+ l
  | [] => List.suffix_refl _
  | c :: r => by
    rw [cmtF]
    split
    · exact List.suffix_refl _
    · exact (cmtF_suf r).trans (List.suffix_cons _ _)
/-- The position that a parser's cell tells. -/
def atOf (w : World) (p : Nat) : Nat := match w.cell? ⟨p, 3, none⟩ with
  | some (.int _ z) => z.toNat
  | _ => 0
theorem PS.atIs {X : Fx} {w : World} {a op : Nat} {s : St} {F : Nat → Prop} (h : PS X w a op s F) : atOf w X.p = a := by
  obtain ⟨_, _, _, c3, _, _⟩ := Blk.six h.blk
  unfold Rd.atOf
  rw [c3]
  simp
/-- The parser at some end of what was left. -/
def At (X : Fx) (w wr : World) (op : Nat) (s : St) (F : Nat → Prop) (P : List Int → Prop) : Prop := ∃ (a : Nat) (r : List Int), PS X wr a op ⟨r, s.ob, s.tb⟩ F ∧ PAfter X w wr F F ∧ P r
theorem At.start {X : Fx} {w : World} {a op : Nat} {s : St} {F : Nat → Prop} {P : List Int → Prop} (h : PS X w a op s F) (hP : P s.rest) : At X w w op s F P := ⟨a, s.rest, h, .refl _ _ _, hP⟩

set_option maxHeartbeats 1000000 in
theorem PS.skipComment {X : Fx} {w : World} {a op : Nat} {s : St} {F : Nat → Prop} (h : PS X w a op s F) (hX : X.Ok) :
    Calls Tryz.prog 130 #[pptr X.p] w fun e w' => e = .returned (.tuple #[]) ∧ At X w w' op s F (fun r => r = cmtF s.rest) := by
  have HA := Lib.hid (At.start (P := fun r => cmtF r = cmtF s.rest) h rfl)
  have HX := Lib.hid hX
  clear h hX
  go_enter Tryz.func130, Tryz.ntmps130
  go_wp2_with fail
  go_loopw [] (fun wr => At X w wr op s F (fun r => cmtF r = cmtF s.rest)) (fun wr => X.l.length - atOf wr X.p)
  case atStart => exact HA.out
  case round =>
    obtain ⟨a1, r1, hP, hA, hr⟩ := hrel
    have HN := hP.next HX.out
    cases r1 with
    | nil =>
      have HN2 : Hid (Calls Tryz.prog 67 #[pptr X.p] wr fun e w' => e = .returned (.int .i64 (-1)) ∧ wr = w') := HN
      have HF := Lib.hid (show At X w wr op s F (fun r => r = cmtF s.rest) from ⟨a1, _, hP, hA, hr⟩)
      clear HN hP hA hr HA
      go_wp2_with (go_at_call 67; refine HN2.out.mono ?_; rintro e w' ⟨rfl, rfl⟩)
      go_end0
      exact ⟨rfl, HF.out⟩
    | cons c r =>
      have HN2 : Hid (Calls Tryz.prog 67 #[pptr X.p] wr fun e w' => e = .returned (.int .i64 c) ∧ wr = w') := HN
      have hat := hP.at_
      obtain ⟨hd, hle⟩ := drop_tail hat
      have h0 : 0 ≤ c := (HX.out.chars c (List.mem_of_mem_drop (by rw [hat]; simp))).1
      by_cases e10 : c = 10
      · subst e10
        have HF := Lib.hid (show At X w wr op s F (fun r => r = cmtF s.rest) from ⟨a1, _, hP, hA, by rw [← hr, cmtF, if_pos rfl]⟩)
        clear HN hP hA hr HA hat hd hle h0
        go_wp2_with (go_at_call 67; refine HN2.out.mono ?_; rintro e w' ⟨rfl, rfl⟩)
        go_end0
        exact ⟨rfl, HF.out⟩
      · have n1 : (c != 10) = true := by simpa using e10
        have n2 : (c != -1) = true := by simp; omega
        obtain ⟨_, _, _, c3, _, _⟩ := Blk.six hP.blk
        have f3 := hP.blk.free 3
        have hm := hP.move HX.out (a1 + 1) hle (.int .i64 ((a1 : Int) + 1)) (by simp)
        rw [hd] at hm
        have HM := Lib.hid (show At X w (wr.setCell ⟨X.p, 3, none⟩ (.int .i64 ((a1 : Int) + 1))) op s F (fun r => cmtF r = cmtF s.rest) from ⟨a1 + 1, r, hm.1, hA.trans hm.2, by rw [← hr, cmtF, if_neg e10]⟩)
        have HP1 := Lib.hid hP.atIs
        have HP2 := Lib.hid hm.1.atIs
        have hs := HX.out.short
        have hb : (a1 : Int) + 1 ≤ 1000000 := by omega
        have HL := Lib.hid hle
        clear HN hP hA hr HA hat hd h0 hm hle e10 hs
        go_wp2_with (go_at_call 67; refine HN2.out.mono ?_; rintro e w' ⟨rfl, rfl⟩)
        go_roundw
        case rel => exact HM.out
        case measure => have h1 := HP1.out; have h2 := HP2.out; have h3 := HL.out; rw [h1, h2]; omega

set_option maxHeartbeats 1000000 in
theorem PS.skip {X : Fx} {w : World} {a op : Nat} {s : St} {F : Nat → Prop} (h : PS X w a op s F) (hX : X.Ok) :
    Calls Tryz.prog 66 #[pptr X.p] w fun e w' => e = .returned (.tuple #[]) ∧ At X w w' op s F (fun r => r = skipF false s.rest) := by
  have HA := Lib.hid (At.start (P := fun r => skipF false r = skipF false s.rest) h rfl)
  have HX := Lib.hid hX
  clear h hX
  go_enter Tryz.func66, Tryz.ntmps66
  go_wp2_with fail
  go_loopw [] (fun wr => At X w wr op s F (fun r => skipF false r = skipF false s.rest)) (fun wr => X.l.length - atOf wr X.p)
  case atStart => exact HA.out
  case round =>
    obtain ⟨a1, r1, hP, hA, hr⟩ := hrel
    have HN := hP.next HX.out
    cases r1 with
    | nil =>
      have HN2 : Hid (Calls Tryz.prog 67 #[pptr X.p] wr fun e w' => e = .returned (.int .i64 (-1)) ∧ wr = w') := HN
      have HF := Lib.hid (show At X w wr op s F (fun r => r = skipF false s.rest) from ⟨a1, _, hP, hA, hr⟩)
      have HB := Lib.hid (blank_any (-1))
      rw [show blankB (-1) = false from rfl] at HB
      clear HN hP hA hr HA
      go_wp2_with (first
        | (go_at_call 67; refine HN2.out.mono ?_; rintro e w' ⟨rfl, rfl⟩)
        | (go_at_call 21; refine (HB.out _).mono ?_; rintro e w' ⟨rfl, rfl⟩))
      refine bodyPost_ret (results_none rfl _ _ _) rfl ?_
      exact ⟨rfl, HF.out⟩
    | cons c r =>
      have HN2 : Hid (Calls Tryz.prog 67 #[pptr X.p] wr fun e w' => e = .returned (.int .i64 c) ∧ wr = w') := HN
      have hat := hP.at_
      obtain ⟨hd, hle⟩ := drop_tail hat
      by_cases e59 : c = 59
      · subst e59
        have HC := Lib.hid (hP.skipComment HX.out)
        have hr2 : skipF false (cmtF (59 :: r)) = skipF false s.rest := by
          rw [← hr, skipF, if_pos rfl, skip_cmt]
          rfl
        have HP1 := Lib.hid hP.atIs
        have HW := Lib.hid (show ∀ w', At X wr w' op ⟨59 :: r, s.ob, s.tb⟩ F (fun q => q = cmtF (59 :: r)) → At X w w' op s F (fun q => skipF false q = skipF false s.rest) ∧ X.l.length - atOf w' X.p < X.l.length - a1 from fun w' ⟨a2, r2, hP2, hA2, hr3⟩ => by
          subst hr3
          refine ⟨⟨a2, _, hP2, hA.trans hA2, hr2⟩, ?_⟩
          rw [hP2.atIs]
          have n1 := hP.n
          have n2 := hP2.n
          have n3 : (cmtF (59 :: r)).length ≤ r.length := (show cmtF (59 :: r) <:+ r from by rw [cmtF, if_neg (by decide)]; exact cmtF_suf r).length_le
          simp only [List.length_cons] at n1 n2
          omega)
        clear HN hP hA hr HA hat hd hle hr2
        go_wp2_with (first
          | (go_at_call 67; refine HN2.out.mono ?_; rintro e w' ⟨rfl, rfl⟩)
          | (go_at_call 130; refine HC.out.mono ?_; rintro e w2 ⟨rfl, hw2⟩))
        go_roundw
        case rel => exact (HW.out _ hw2).1
        case measure => have h1 := HP1.out; have h2 := (HW.out _ hw2).2; rw [h1]; exact h2
      · have n1 : (c == 59) = false := by simpa using e59
        have HB := Lib.hid (blank_any c)
        cases hb : blankB c with
        | true =>
          rw [hb] at HB
          obtain ⟨_, _, _, c3, _, _⟩ := Blk.six hP.blk
          have f3 := hP.blk.free 3
          have hm := hP.move HX.out (a1 + 1) hle (.int .i64 ((a1 : Int) + 1)) (by simp)
          rw [hd] at hm
          have HM := Lib.hid (show At X w (wr.setCell ⟨X.p, 3, none⟩ (.int .i64 ((a1 : Int) + 1))) op s F (fun q => skipF false q = skipF false s.rest) from ⟨a1 + 1, r, hm.1, hA.trans hm.2, by rw [← hr, skipF.eq_def false (c :: r)]; simp only; rw [if_neg e59, if_pos hb]⟩)
          have HP1 := Lib.hid hP.atIs
          have HP2 := Lib.hid hm.1.atIs
          have hs := HX.out.short
          have hb2 : (a1 : Int) + 1 ≤ 1000000 := by omega
          have HL := Lib.hid hle
          clear HN hP hA hr HA hat hd hm hle hs e59 hb
          go_wp2_with (first
            | (go_at_call 67; refine HN2.out.mono ?_; rintro e w' ⟨rfl, rfl⟩)
            | (go_at_call 21; refine (HB.out _).mono ?_; rintro e w' ⟨rfl, rfl⟩))
          go_roundw
          case rel => exact HM.out
          case measure => have h1 := HP1.out; have h2 := HP2.out; have h3 := HL.out; rw [h1, h2]; omega
        | false =>
          rw [hb] at HB
          have HF := Lib.hid (show At X w wr op s F (fun q => q = skipF false s.rest) from ⟨a1, _, hP, hA, by rw [← hr]; exact (skipF_stop e59 hb).symm⟩)
          clear HN hP hA hr HA hat hd hle e59 hb
          go_wp2_with (first
            | (go_at_call 67; refine HN2.out.mono ?_; rintro e w' ⟨rfl, rfl⟩)
            | (go_at_call 21; refine (HB.out _).mono ?_; rintro e w' ⟨rfl, rfl⟩))
          refine bodyPost_ret (results_none rfl _ _ _) rfl ?_
          exact ⟨rfl, HF.out⟩

/-- open where as many are open as may be. -/
theorem PS.openFull {X : Fx} {w : World} {a op : Nat} {s : St} {F : Nat → Prop} (h : PS X w a op s F) (ho : op = 200) (n : Int) :
    Calls Tryz.prog 164 #[pptr X.p, .int .i64 n] w fun e w' => e = faultE 12 (X.l.length - s.rest.length) ∧ w = w' := by
  rw [h.pos]
  subst ho
  obtain ⟨_, _, _, c3, c4', _⟩ := Blk.six h.blk
  have c4 : w.cell? ⟨X.p, 4, none⟩ = some (.int .i64 200) := c4'
  clear h c4'
  unfold faultE
  go_enter Tryz.func164, Tryz.ntmps164
  go_wp2
  exact ⟨rfl, rfl, rfl⟩
theorem PS.open {X : Fx} {w : World} {a op : Nat} {s : St} {F : Nat → Prop} (h : PS X w a op s F) (hX : X.Ok) (ho : op ≠ 200) (n : Nat) (hn : n ≤ s.rest.length) :
    Calls Tryz.prog 164 #[pptr X.p, .int .i64 (n : Int)] w fun e w' => e = .returned (.int .i64 (a : Int)) ∧ PS X w' (a + n) (op + 1) ⟨s.rest.drop n, s.ob, s.tb⟩ F ∧ PAfter X w w' F F := by
  have hnn := h.n
  have hop := h.opl
  have h1 := h.nest hX (op + 1) (by omega) (.int .i64 ((op : Int) + 1)) (by simp)
  have h2 := h1.1.move hX (a + n) (by omega) (.int .i64 ((a : Int) + (n : Int))) (by simp)
  have ed : X.l.drop (a + n) = s.rest.drop n := by rw [← h.at_, List.drop_drop]
  rw [ed] at h2
  have HF := Lib.hid (And.intro h2.1 (h1.2.trans h2.2))
  obtain ⟨_, _, _, c3, c4, _⟩ := Blk.six h.blk
  obtain ⟨_, _, _, d3, _, _⟩ := Blk.six h1.1.blk
  have f4 := h.blk.free 4
  have f3 := h.blk.free 3
  have g3 := h1.1.blk.free 3
  have hne : ((op : Int) == 200) = false := by simp; omega
  have hb1 : (op : Int) + 1 ≤ 200 := by omega
  have hs := hX.short
  have hb2 : (a : Int) + n ≤ 1000000 := by omega
  clear h h1 h2 ed hX hnn hop hn ho hs
  go_enter Tryz.func164, Tryz.ntmps164
  go_wp2
  go_ret
  exact ⟨rfl, HF.out⟩
theorem PS.stray {X : Fx} {w : World} {a op : Nat} {s : St} {F : Nat → Prop} (h : PS X w a op s F) :
    Calls Tryz.prog 122 #[pptr X.p] w fun e w' => e = faultE 5 (X.l.length - s.rest.length) ∧ Below w.heap.size w w' := by
  rw [h.pos]
  have h1 := h.alloc (.cells #[.int .i64 0, .int .i64 0] 28)
  obtain ⟨_, _, _, c3, _, _⟩ := Blk.six h1.blk
  clear h h1
  unfold faultE
  go_enter Tryz.func122, Tryz.ntmps122
  go_wp2
  exact ⟨rfl, rfl, (Below.refl _ _).alloc (Nat.le_refl _) _⟩
theorem check_ok (k : Int) (w : World) : Calls Tryz.prog 120 #[.int .i64 0, .int .i64 k] w fun e w' => e = .returned (.tuple #[]) ∧ w = w' := by
  go_enter Tryz.func120, Tryz.ntmps120
  go_wp2
  go_end0
  exact ⟨rfl, rfl⟩
theorem check_err (c : Int) (hc : c ≠ 0) (k : Nat) (w : World) : Calls Tryz.prog 120 #[.int .i64 c, .int .i64 (k : Int)] w fun e w' => e = faultE c k ∧ w = w' := by
  have hne : (c != 0) = true := by simpa using hc
  unfold faultE
  go_enter Tryz.func120, Tryz.ntmps120
  go_wp2
  exact ⟨rfl, rfl, rfl⟩
theorem symbol_any (n : Int) (w : World) : Calls Tryz.prog 194 #[.int .i64 n] w fun e w' => e = .returned (wd (1, n)) ∧ Below w.heap.size w w' := by
  go_enter Tryz.func194, Tryz.ntmps194
  go_wp2
  refine bodyPost_ret (v := wd (1, n)) (by simp [results, Tryz.results194, go_sem]) rfl ⟨rfl, ?_⟩
  exact (Below.refl _ _).alloc (Nat.le_refl _) _
end Go.Proofs.YtlibdhnlmekmhaaGreatDoor.Rd
end

/- Numerals: their characters, their bytes, and what strconv.Atoi and strings.Trim make of them. -/
section
namespace Go.Proofs.YtlibdhnlmekmhaaGreatDoor.Rd
open Go.RowKit Go.Lib
open Go.Proofs.YtlibdhnlmekmhaaGreatDoor.Hp Go.Proofs.YtlibdhnlmekmhaaGreatDoor.Utf

theorem enc_one {c : Int} (h0 : 0 ≤ c) (h1 : c ≤ 127) : encodeRune c = [c.toNat.toUInt8] := by
  unfold encodeRune
  rw [encodeRuneZ_one h0 h1]
  rfl
/-- The first byte of a character beyond ASCII. -/
theorem enc_high {c : Int} (hc : isC c) (h : 128 ≤ c) : ∀ b ∈ encodeRune c, 128 ≤ b.toNat := by
  obtain ⟨h0, h1, h2⟩ := hc
  intro b hb
  unfold encodeRune at hb
  obtain ⟨z, hz, rfl⟩ := List.mem_map.1 hb
  have hz2 : 128 ≤ z ∧ z < 256 := by
    by_cases a1 : c ≤ 2047
    · rw [encodeRuneZ_two h a1] at hz
      simp at hz
      omega
    · by_cases a2 : c ≤ 65535
      · rw [encodeRuneZ_three (by omega)] at hz
        simp at hz
        omega
      · rw [encodeRuneZ_four (by omega) h1] at hz
        simp at hz
        omega
  rw [byte_num z (by omega) (by omega)]
  omega
theorem low_byte {c : Int} (h0 : 0 ≤ c) (h1 : c ≤ 127) : (c.toNat.toUInt8).toNat = c.toNat := byte_num c h0 (by omega)
/-- The first byte is ASCII exactly where the first character is. -/
theorem enc_head {c : Int} (hc : isC c) (r : List Int) : ∃ b t, enc (c :: r) = b :: t ∧ ((c ≤ 127 ∧ b = c.toNat.toUInt8 ∧ t = enc r) ∨ (128 ≤ c ∧ 128 ≤ b.toNat)) := by
  rw [enc_cons]
  by_cases h : c ≤ 127
  · rw [enc_one hc.1 h]
    exact ⟨_, _, rfl, .inl ⟨h, rfl, rfl⟩⟩
  · have h2 := enc_high hc (by omega)
    have h3 := (encode_length c).1
    cases he : encodeRune c with
    | nil => rw [he] at h3; simp at h3
    | cons b t =>
      rw [he] at h2
      exact ⟨b, t ++ enc r, rfl, .inr ⟨by omega, h2 b (by simp)⟩⟩
def digitsB : List UInt8 := [48, 49, 50, 51, 52, 53, 54, 55, 56, 57]
theorem in_digits (b : UInt8) : digitsB.contains b = true ↔ 48 ≤ b.toNat ∧ b.toNat ≤ 57 := by
  unfold digitsB
  simp only [List.contains_cons, List.contains_nil, Bool.or_false, Bool.or_eq_true, beq_iff_eq]
  constructor
  · rintro (rfl | rfl | rfl | rfl | rfl | rfl | rfl | rfl | rfl | rfl) <;> decide
  · intro h
    have e : ∀ n : UInt8, b.toNat = n.toNat → b = n := fun n hn => UInt8.toNat_inj.1 hn
    have : b.toNat = 48 ∨ b.toNat = 49 ∨ b.toNat = 50 ∨ b.toNat = 51 ∨ b.toNat = 52 ∨ b.toNat = 53 ∨ b.toNat = 54 ∨ b.toNat = 55 ∨ b.toNat = 56 ∨ b.toNat = 57 := by omega
    rcases this with h | h | h | h | h | h | h | h | h | h
    · exact .inl (e 48 h)
    · exact .inr (.inl (e 49 h))
    · exact .inr (.inr (.inl (e 50 h)))
    · exact .inr (.inr (.inr (.inl (e 51 h))))
    · exact .inr (.inr (.inr (.inr (.inl (e 52 h)))))
    · exact .inr (.inr (.inr (.inr (.inr (.inl (e 53 h))))))
    · exact .inr (.inr (.inr (.inr (.inr (.inr (.inl (e 54 h)))))))
    · exact .inr (.inr (.inr (.inr (.inr (.inr (.inr (.inl (e 55 h))))))))
    · exact .inr (.inr (.inr (.inr (.inr (.inr (.inr (.inr (.inl (e 56 h)))))))))
    · exact .inr (.inr (.inr (.inr (.inr (.inr (.inr (.inr (.inr (e 57 h)))))))))
theorem digitB_iff (c : Int) : digitB c = true ↔ 48 ≤ c ∧ c ≤ 57 := by simp [digitB]
/-- All bytes are digits exactly where all characters are. -/
theorem all_digits : ∀ (l : List Int), (∀ c ∈ l, isC c) → ((enc l).all (digitsB.contains ·) = l.all digitB)
  | [], _ => rfl
  | c :: r, h => by
    have ih := all_digits r fun x hx => h x (List.mem_cons_of_mem _ hx)
    have hc := h c (by simp)
    rw [enc_cons, List.all_append, ih, List.all_cons]
    congr 1
    by_cases h1 : c ≤ 127
    · rw [enc_one hc.1 h1, Bool.eq_iff_iff]
      simp only [List.all_cons, List.all_nil, Bool.and_true]
      rw [in_digits, digitB_iff, low_byte hc.1 h1]
      have := hc.1
      omega
    · have h2 := enc_high hc (by omega)
      have e1 : digitB c = false := by
        rw [Bool.eq_false_iff]
        intro e
        have := (digitB_iff c).1 e
        omega
      rw [e1, Bool.eq_false_iff]
      intro e
      have h3 := (encode_length c).1
      cases he : encodeRune c with
      | nil => rw [he] at h3; simp at h3
      | cons b t =>
        rw [he] at e h2
        have h4 := (in_digits b).1 (List.all_eq_true.1 e b (by simp))
        have := h2 b (by simp)
        omega
theorem dropWhile_nil {α : Type} (p : α → Bool) : ∀ l : List α, l.dropWhile p = [] ↔ l.all p = true
  | [] => by simp
  | c :: r => by
    rw [List.dropWhile_cons, List.all_cons]
    split
    · rename_i e
      rw [dropWhile_nil p r, e]
      simp
    · rename_i e
      simp [e]
theorem trimS_nil (l cs : List UInt8) : trimS l cs = [] ↔ l.all (cs.contains ·) = true := by
  unfold trimS trimLeftS trimRightS
  rw [dropWhile_nil, List.all_reverse]
  constructor
  · intro h
    have h2 : ∀ m : List UInt8, (m.dropWhile (cs.contains ·)).all (cs.contains ·) = true → m.all (cs.contains ·) = true := by
      intro m
      induction m with
      | nil => simp
      | cons c r ih =>
        intro hm
        rw [List.dropWhile_cons] at hm
        split at hm
        · rename_i e
          rw [List.all_cons, e, ih hm]
          rfl
        · exact hm
    have := h2 _ h
    rwa [List.all_reverse] at this
  · intro h
    have h3 : l.reverse.all (cs.contains ·) = true := by rw [List.all_reverse]; exact h
    rw [(dropWhile_nil _ _).2 h3]
    rfl

/-- The value of digits behind a. -/
def valFrom (a : Int) (l : List Int) : Int := l.foldl (fun n c => 10 * n + (c - 48)) a
theorem valFrom_ge : ∀ (l : List Int) (a : Int), 0 ≤ a → l.all digitB = true → a ≤ valFrom a l
  | [], a, _, _ => Int.le_refl _
  | c :: r, a, ha, h => by
    rw [List.all_cons, Bool.and_eq_true] at h
    have hd := (digitB_iff c).1 h.1
    have := valFrom_ge r (10 * a + (c - 48)) (by omega) h.2
    unfold valFrom at this ⊢
    rw [List.foldl_cons]
    omega
/-- How digits are parsed. -/
theorem parse_digits : ∀ (l : List Int) (a : Nat), a < 18446744073709551616 → l.all digitB = true → (parseUint10 a (enc l) = .ok (valFrom a l).toNat ∧ valFrom a l < 18446744073709551616) ∨ (parseUint10 a (enc l) = .range ∧ 18446744073709551616 ≤ valFrom a l)
  | [], a, ha, _ => .inl ⟨by simp [enc, parseUint10, valFrom], by simp [valFrom]; omega⟩
  | c :: r, a, ha, h => by
    rw [List.all_cons, Bool.and_eq_true] at h
    have hd := (digitB_iff c).1 h.1
    rw [enc_cons, enc_one (by omega) (by omega)]
    rw [List.singleton_append, parseUint10, low_byte (by omega) (by omega), if_pos (by omega)]
    have hv : valFrom a (c :: r) = valFrom (10 * a + (c - 48)) r := rfl
    have hge := valFrom_ge r (10 * a + (c - 48)) (by omega) h.2
    rw [hv]
    split
    · exact .inr ⟨rfl, by omega⟩
    · split
      · exact .inr ⟨rfl, by omega⟩
      · rename_i h1 h2
        have e : ((a * 10 + (c.toNat - 48) : Nat) : Int) = 10 * a + (c - 48) := by omega
        have := parse_digits r (a * 10 + (c.toNat - 48)) (by omega) h.2
        rw [e] at this
        exact this
theorem parseMag_digits {l : List Int} (hne : l ≠ []) (h : l.all digitB = true) : (parseMag (enc l) = .ok (valF l).toNat ∧ 0 ≤ valF l ∧ valF l < 18446744073709551616) ∨ (parseMag (enc l) = .range ∧ 18446744073709551616 ≤ valF l) := by
  unfold parseMag
  have hn : enc l ≠ [] := by
    cases l with
    | nil => exact absurd rfl hne
    | cons c r => rw [enc_cons]; exact encode_ne c _
  rw [if_neg hn]
  have h0 := valFrom_ge l 0 (by omega) h
  rcases parse_digits l 0 (by omega) h with ⟨h1, h2⟩ | ⟨h1, h2⟩
  · exact .inl ⟨h1, h0, h2⟩
  · exact .inr ⟨h1, h2⟩
/-- What Atoi makes of a numeral. -/
theorem atoi_num {l : List Int} (hc : ∀ c ∈ l, isC c) (h : numB l = true) : (atoiAll (enc l) = .ok (intV l)) ∨ (atoiAll (enc l) = .range ∧ ¬ (-2305843009213693952 ≤ intV l ∧ intV l ≤ 2305843009213693951)) := by
  cases l with
  | nil => simp [numB, unsign] at h
  | cons c r =>
    unfold numB at h
    rw [Bool.and_eq_true] at h
    obtain ⟨h1, h2⟩ := h
    have hne : unsign (c :: r) ≠ [] := by
      intro e
      rw [e] at h1
      simp at h1
    have key : ∀ (e : NumEnd Nat) (v : Int), ((e = .ok v.toNat ∧ 0 ≤ v ∧ v < 18446744073709551616) ∨ (e = .range ∧ 18446744073709551616 ≤ v)) →
        ((signless e = .ok v ∨ (signless e = .range ∧ ¬ (-2305843009213693952 ≤ v ∧ v ≤ 2305843009213693951))) ∧ (signed e = .ok (-v) ∨ (signed e = .range ∧ ¬ (-2305843009213693952 ≤ -v ∧ -v ≤ 2305843009213693951)))) := by
      rintro e v (⟨rfl, k0, k1⟩ | ⟨rfl, k1⟩)
      · unfold signless signed
        simp only
        constructor
        · split
          · exact .inr ⟨rfl, by omega⟩
          · exact .inl (by rw [Int.toNat_of_nonneg k0])
        · split
          · exact .inr ⟨rfl, by omega⟩
          · exact .inl (by rw [Int.toNat_of_nonneg k0])
      · exact ⟨.inr ⟨rfl, by omega⟩, .inr ⟨rfl, by omega⟩⟩
    by_cases e43 : c = 43
    · subst e43
      have hu : unsign (43 :: r) = r := by simp [unsign]
      rw [hu] at hne h2
      have hv : intV (43 :: r) = valF r := by unfold intV; rw [hu]; simp
      rw [enc_cons, enc_one (by omega) (by omega), hv]
      have := (key _ _ (parseMag_digits hne h2)).1
      rw [← atoiAll_plus] at this
      exact this
    · by_cases e45 : c = 45
      · subst e45
        have hu : unsign (45 :: r) = r := by simp [unsign]
        rw [hu] at hne h2
        have hv : intV (45 :: r) = -valF r := by unfold intV; rw [hu]; simp
        rw [enc_cons, enc_one (by omega) (by omega), hv]
        have := (key _ _ (parseMag_digits hne h2)).2
        rw [← atoiAll_minus] at this
        exact this
      · have hu : unsign (c :: r) = c :: r := by simp [unsign, e43, e45]
        rw [hu] at hne h2
        have hv : intV (c :: r) = valF (c :: r) := by unfold intV; rw [hu]; simp [e45]
        have hd := (digitB_iff c).1 (List.all_eq_true.1 h2 c (by simp))
        have := (key _ _ (parseMag_digits hne h2)).1
        rw [hv]
        rw [enc_cons, enc_one (by omega) (by omega)] at this ⊢
        rw [List.singleton_append] at this ⊢
        rw [atoiAll_plain _ _ (by rw [low_byte (by omega) (by omega)]; omega) (by rw [low_byte (by omega) (by omega)]; omega)]
        exact this
theorem intV_in {l : List Int} (hc : ∀ c ∈ l, isC c) (h : numB l = true) {v : Int} (hv : atoiAll (enc l) = .ok v) : v = intV l := by
  rcases atoi_num hc h with e | ⟨e, _⟩
  · rw [e] at hv; cases hv; rfl
  · rw [e] at hv; cases hv
end Go.Proofs.YtlibdhnlmekmhaaGreatDoor.Rd
end
