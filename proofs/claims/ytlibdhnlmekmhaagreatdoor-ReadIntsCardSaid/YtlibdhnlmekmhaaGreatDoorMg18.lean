/- The contracts of skip, skipComment, open, stray, check, symbol. | The contracts of intern and cons. -/
import Derived.Deep.RegionHeld3
import Derived.BigQuiet
import Derived.Test.YtlibdhnlmekmhaaGreatDoorMg17
/- The contracts of skip, skipComment, open, stray, check, symbol. -/
section
namespace Go.Proofs.YtlibdhnlmekmhaaGreatDoor.Rd
set_option maxRecDepth 100000
open Go.RowKit
open Go.Proofs.YtlibdhnlmekmhaaGreatDoor.Own Go.Proofs.YtlibdhnlmekmhaaGreatDoor.Hp Go.Proofs.YtlibdhnlmekmhaaGreatDoor.Rep Go.Proofs.YtlibdhnlmekmhaaGreatDoor.Get Go.Proofs.YtlibdhnlmekmhaaGreatDoor.Utf

/-- What a comment leaves: the end of its line. -/
def cmtF : List Int → List Int
  | [] => []
  | c :: r => if c = 10 then c :: r else cmtF r
theorem skip_cmt : ∀ l, skipF true l = skipF false (cmtF l)
  | [] => rfl
  | c :: r => by
    rw [skipF, cmtF]
    split
    · rename_i e
      subst e
      rfl
    · exact skip_cmt r
theorem cmtF_suf : ∀ l, cmtF l <:+ l
  | [] => List.suffix_refl _
  | c :: r => by
    rw [cmtF]
    split
    · exact List.suffix_refl _
    · exact (cmtF_suf r).trans (List.suffix_cons _ _)
/-- The position that a parser's cell tells. -/
def atOf (w : World) (p : Nat) : Nat := match w.cell? ⟨p, 3, none⟩ with
  | some (.int _ z) => z.toNat
  | _ => 0
theorem PS.atIs {X : Fx} {w : World} {a op : Nat} {s : St} {F : Nat → Prop} (h : PS X w a op s F) : atOf w X.p = a := by
  obtain ⟨_, _, _, c3, _, _⟩ := Blk.six h.blk
  unfold Rd.atOf
  rw [c3]
  simp
/-- The parser at some end of what was left. -/
def At (X : Fx) (w wr : World) (op : Nat) (s : St) (F : Nat → Prop) (P : List Int → Prop) : Prop := ∃ (a : Nat) (r : List Int), PS X wr a op ⟨r, s.ob, s.tb⟩ F ∧ PAfter X w wr F F ∧ P r
theorem At.start {X : Fx} {w : World} {a op : Nat} {s : St} {F : Nat → Prop} {P : List Int → Prop} (h : PS X w a op s F) (hP : P s.rest) : At X w w op s F P := ⟨a, s.rest, h, .refl _ _ _, hP⟩

set_option maxHeartbeats 1000000 in
theorem PS.skipComment {X : Fx} {w : World} {a op : Nat} {s : St} {F : Nat → Prop} (h : PS X w a op s F) (hX : X.Ok) :
    Calls Tryz.prog 130 #[pptr X.p] w fun e w' => e = .returned (.tuple #[]) ∧ At X w w' op s F (fun r => r = cmtF s.rest) := by
  have HA := Lib.hid (At.start (P := fun r => cmtF r = cmtF s.rest) h rfl)
  have HX := Lib.hid hX
  clear h hX
  go_enter Tryz.func130, Tryz.ntmps130
  go_wp2_with fail
  go_loopw [] (fun wr => At X w wr op s F (fun r => cmtF r = cmtF s.rest)) (fun wr => X.l.length - atOf wr X.p)
  case atStart => exact HA.out
  case round =>
    obtain ⟨a1, r1, hP, hA, hr⟩ := hrel
    have HN := hP.next HX.out
    cases r1 with
    | nil =>
      have HN2 : Hid (Calls Tryz.prog 67 #[pptr X.p] wr fun e w' => e = .returned (.int .i64 (-1)) ∧ wr = w') := HN
      have HF := Lib.hid (show At X w wr op s F (fun r => r = cmtF s.rest) from ⟨a1, _, hP, hA, hr⟩)
      clear HN hP hA hr HA
      go_wp2_with (go_at_call 67; refine HN2.out.mono ?_; rintro e w' ⟨rfl, rfl⟩)
      go_end0
      exact ⟨rfl, HF.out⟩
    | cons c r =>
      have HN2 : Hid (Calls Tryz.prog 67 #[pptr X.p] wr fun e w' => e = .returned (.int .i64 c) ∧ wr = w') := HN
      have hat := hP.at_
      obtain ⟨hd, hle⟩ := drop_tail hat
      have h0 : 0 ≤ c := (HX.out.chars c (List.mem_of_mem_drop (by rw [hat]; simp))).1
      by_cases e10 : c = 10
      · subst e10
        have HF := Lib.hid (show At X w wr op s F (fun r => r = cmtF s.rest) from ⟨a1, _, hP, hA, by rw [← hr, cmtF, if_pos rfl]⟩)
        clear HN hP hA hr HA hat hd hle h0
        go_wp2_with (go_at_call 67; refine HN2.out.mono ?_; rintro e w' ⟨rfl, rfl⟩)
        go_end0
        exact ⟨rfl, HF.out⟩
      · have n1 : (c != 10) = true := by simpa using e10
        have n2 : (c != -1) = true := by simp; omega
        obtain ⟨_, _, _, c3, _, _⟩ := Blk.six hP.blk
        have f3 := hP.blk.free 3
        have hm := hP.move HX.out (a1 + 1) hle (.int .i64 ((a1 : Int) + 1)) (by simp)
        rw [hd] at hm
        have HM := Lib.hid (show At X w (wr.setCell ⟨X.p, 3, none⟩ (.int .i64 ((a1 : Int) + 1))) op s F (fun r => cmtF r = cmtF s.rest) from ⟨a1 + 1, r, hm.1, hA.trans hm.2, by rw [← hr, cmtF, if_neg e10]⟩)
        have HP1 := Lib.hid hP.atIs
        have HP2 := Lib.hid hm.1.atIs
        have hs := HX.out.short
        have hb : (a1 : Int) + 1 ≤ 1000000 := by omega
        have HL := Lib.hid hle
        clear HN hP hA hr HA hat hd h0 hm hle e10 hs
        go_wp2_with (go_at_call 67; refine HN2.out.mono ?_; rintro e w' ⟨rfl, rfl⟩)
        go_roundw
        case rel => exact HM.out
        case measure => have h1 := HP1.out; have h2 := HP2.out; have h3 := HL.out; rw [h1, h2]; omega

set_option maxHeartbeats 1000000 in
theorem PS.skip {X : Fx} {w : World} {a op : Nat} {s : St} {F : Nat → Prop} (h : PS X w a op s F) (hX : X.Ok) :
    Calls Tryz.prog 66 #[pptr X.p] w fun e w' => e = .returned (.tuple #[]) ∧ At X w w' op s F (fun r => r = skipF false s.rest) := by
  have HA := Lib.hid (At.start (P := fun r => skipF false r = skipF false s.rest) h rfl)
  have HX := Lib.hid hX
  clear h hX
  go_enter Tryz.func66, Tryz.ntmps66
  go_wp2_with fail
  go_loopw [] (fun wr => At X w wr op s F (fun r => skipF false r = skipF false s.rest)) (fun wr => X.l.length - atOf wr X.p)
  case atStart => exact HA.out
  case round =>
    obtain ⟨a1, r1, hP, hA, hr⟩ := hrel
    have HN := hP.next HX.out
    cases r1 with
    | nil =>
      have HN2 : Hid (Calls Tryz.prog 67 #[pptr X.p] wr fun e w' => e = .returned (.int .i64 (-1)) ∧ wr = w') := HN
      have HF := Lib.hid (show At X w wr op s F (fun r => r = skipF false s.rest) from ⟨a1, _, hP, hA, hr⟩)
      have HB := Lib.hid (blank_any (-1))
      rw [show blankB (-1) = false from rfl] at HB
      clear HN hP hA hr HA
      go_wp2_with (first
        | (go_at_call 67; refine HN2.out.mono ?_; rintro e w' ⟨rfl, rfl⟩)
        | (go_at_call 21; refine (HB.out _).mono ?_; rintro e w' ⟨rfl, rfl⟩))
      refine bodyPost_ret (results_none rfl _ _ _) rfl ?_
      exact ⟨rfl, HF.out⟩
    | cons c r =>
      have HN2 : Hid (Calls Tryz.prog 67 #[pptr X.p] wr fun e w' => e = .returned (.int .i64 c) ∧ wr = w') := HN
      have hat := hP.at_
      obtain ⟨hd, hle⟩ := drop_tail hat
      by_cases e59 : c = 59
      · subst e59
        have HC := Lib.hid (hP.skipComment HX.out)
        have hr2 : skipF false (cmtF (59 :: r)) = skipF false s.rest := by
          rw [← hr, skipF, if_pos rfl, skip_cmt]
          rfl
        have HP1 := Lib.hid hP.atIs
        have HW := Lib.hid (show ∀ w', At X wr w' op ⟨59 :: r, s.ob, s.tb⟩ F (fun q => q = cmtF (59 :: r)) → At X w w' op s F (fun q => skipF false q = skipF false s.rest) ∧ X.l.length - atOf w' X.p < X.l.length - a1 from fun w' ⟨a2, r2, hP2, hA2, hr3⟩ => by
          subst hr3
          refine ⟨⟨a2, _, hP2, hA.trans hA2, hr2⟩, ?_⟩
          rw [hP2.atIs]
          have n1 := hP.n
          have n2 := hP2.n
          have n3 : (cmtF (59 :: r)).length ≤ r.length := (show cmtF (59 :: r) <:+ r from by rw [cmtF, if_neg (by decide)]; exact cmtF_suf r).length_le
          simp only [List.length_cons] at n1 n2
          omega)
        clear HN hP hA hr HA hat hd hle hr2
        go_wp2_with (first
          | (go_at_call 67; refine HN2.out.mono ?_; rintro e w' ⟨rfl, rfl⟩)
          | (go_at_call 130; refine HC.out.mono ?_; rintro e w2 ⟨rfl, hw2⟩))
        go_roundw
        case rel => exact (HW.out _ hw2).1
        case measure => have h1 := HP1.out; have h2 := (HW.out _ hw2).2; rw [h1]; exact h2
      · have n1 : (c == 59) = false := by simpa using e59
        have HB := Lib.hid (blank_any c)
        cases hb : blankB c with
        | true =>
          rw [hb] at HB
          obtain ⟨_, _, _, c3, _, _⟩ := Blk.six hP.blk
          have f3 := hP.blk.free 3
          have hm := hP.move HX.out (a1 + 1) hle (.int .i64 ((a1 : Int) + 1)) (by simp)
          rw [hd] at hm
          have HM := Lib.hid (show At X w (wr.setCell ⟨X.p, 3, none⟩ (.int .i64 ((a1 : Int) + 1))) op s F (fun q => skipF false q = skipF false s.rest) from ⟨a1 + 1, r, hm.1, hA.trans hm.2, by rw [← hr, skipF.eq_def false (c :: r)]; simp only; rw [if_neg e59, if_pos hb]⟩)
          have HP1 := Lib.hid hP.atIs
          have HP2 := Lib.hid hm.1.atIs
          have hs := HX.out.short
          have hb2 : (a1 : Int) + 1 ≤ 1000000 := by omega
          have HL := Lib.hid hle
          clear HN hP hA hr HA hat hd hm hle hs e59 hb
          go_wp2_with (first
            | (go_at_call 67; refine HN2.out.mono ?_; rintro e w' ⟨rfl, rfl⟩)
            | (go_at_call 21; refine (HB.out _).mono ?_; rintro e w' ⟨rfl, rfl⟩))
          go_roundw
          case rel => exact HM.out
          case measure => have h1 := HP1.out; have h2 := HP2.out; have h3 := HL.out; rw [h1, h2]; omega
        | false =>
          rw [hb] at HB
          have HF := Lib.hid (show At X w wr op s F (fun q => q = skipF false s.rest) from ⟨a1, _, hP, hA, by rw [← hr]; exact (skipF_stop e59 hb).symm⟩)
          clear HN hP hA hr HA hat hd hle e59 hb
          go_wp2_with (first
            | (go_at_call 67; refine HN2.out.mono ?_; rintro e w' ⟨rfl, rfl⟩)
            | (go_at_call 21; refine (HB.out _).mono ?_; rintro e w' ⟨rfl, rfl⟩))
          refine bodyPost_ret (results_none rfl _ _ _) rfl ?_
          exact ⟨rfl, HF.out⟩

/-- open where as many are open as may be. -/
theorem PS.openFull {X : Fx} {w : World} {a op : Nat} {s : St} {F : Nat → Prop} (h : PS X w a op s F) (ho : op = 200) (n : Int) :
    Calls Tryz.prog 164 #[pptr X.p, .int .i64 n] w fun e w' => e = faultE 12 (X.l.length - s.rest.length) ∧ w = w' := by
  rw [h.pos]
  subst ho
  obtain ⟨_, _, _, c3, c4', _⟩ := Blk.six h.blk
  have c4 : w.cell? ⟨X.p, 4, none⟩ = some (.int .i64 200) := c4'
  clear h c4'
  unfold faultE
  go_enter Tryz.func164, Tryz.ntmps164
  go_wp2
  exact ⟨rfl, rfl, rfl⟩
theorem PS.open {X : Fx} {w : World} {a op : Nat} {s : St} {F : Nat → Prop} (h : PS X w a op s F) (hX : X.Ok) (ho : op ≠ 200) (n : Nat) (hn : n ≤ s.rest.length) :
    Calls Tryz.prog 164 #[pptr X.p, .int .i64 (n : Int)] w fun e w' => e = .returned (.int .i64 (a : Int)) ∧ PS X w' (a + n) (op + 1) ⟨s.rest.drop n, s.ob, s.tb⟩ F ∧ PAfter X w w' F F := by
  have hnn := h.n
  have hop := h.opl
  have h1 := h.nest hX (op + 1) (by omega) (.int .i64 ((op : Int) + 1)) (by simp)
  have h2 := h1.1.move hX (a + n) (by omega) (.int .i64 ((a : Int) + (n : Int))) (by simp)
  have ed : X.l.drop (a + n) = s.rest.drop n := by rw [← h.at_, List.drop_drop]
  rw [ed] at h2
  have HF := Lib.hid (And.intro h2.1 (h1.2.trans h2.2))
  obtain ⟨_, _, _, c3, c4, _⟩ := Blk.six h.blk
  obtain ⟨_, _, _, d3, _, _⟩ := Blk.six h1.1.blk
  have f4 := h.blk.free 4
  have f3 := h.blk.free 3
  have g3 := h1.1.blk.free 3
  have hne : ((op : Int) == 200) = false := by simp; omega
  have hb1 : (op : Int) + 1 ≤ 200 := by omega
  have hs := hX.short
  have hb2 : (a : Int) + n ≤ 1000000 := by omega
  clear h h1 h2 ed hX hnn hop hn ho hs
  go_enter Tryz.func164, Tryz.ntmps164
  go_wp2
  go_ret
  exact ⟨rfl, HF.out⟩
theorem PS.stray {X : Fx} {w : World} {a op : Nat} {s : St} {F : Nat → Prop} (h : PS X w a op s F) :
    Calls Tryz.prog 122 #[pptr X.p] w fun e w' => e = faultE 5 (X.l.length - s.rest.length) ∧ Below w.heap.size w w' := by
  rw [h.pos]
  have h1 := h.alloc (.cells #[.int .i64 0, .int .i64 0] 28)
  obtain ⟨_, _, _, c3, _, _⟩ := Blk.six h1.blk
  clear h h1
  unfold faultE
  go_enter Tryz.func122, Tryz.ntmps122
  go_wp2
  exact ⟨rfl, rfl, (Below.refl _ _).alloc (Nat.le_refl _) _⟩
theorem check_ok (k : Int) (w : World) : Calls Tryz.prog 120 #[.int .i64 0, .int .i64 k] w fun e w' => e = .returned (.tuple #[]) ∧ w = w' := by
  go_enter Tryz.func120, Tryz.ntmps120
  go_wp2
  go_end0
  exact ⟨rfl, rfl⟩
theorem check_err (c : Int) (hc : c ≠ 0) (k : Nat) (w : World) : Calls Tryz.prog 120 #[.int .i64 c, .int .i64 (k : Int)] w fun e w' => e = faultE c k ∧ w = w' := by
  have hne : (c != 0) = true := by simpa using hc
  unfold faultE
  go_enter Tryz.func120, Tryz.ntmps120
  go_wp2
  exact ⟨rfl, rfl, rfl⟩
theorem symbol_any (n : Int) (w : World) : Calls Tryz.prog 194 #[.int .i64 n] w fun e w' => e = .returned (wd (1, n)) ∧ Below w.heap.size w w' := by
  go_enter Tryz.func194, Tryz.ntmps194
  go_wp2
  refine bodyPost_ret (v := wd (1, n)) (by simp [results, Tryz.results194, go_sem]) rfl ⟨rfl, ?_⟩
  exact (Below.refl _ _).alloc (Nat.le_refl _) _
end Go.Proofs.YtlibdhnlmekmhaaGreatDoor.Rd
end

/- The contracts of intern and cons. -/
section
namespace Go.Proofs.YtlibdhnlmekmhaaGreatDoor.Rd
set_option maxRecDepth 100000
open Go.RowKit
open Go.Proofs.YtlibdhnlmekmhaaGreatDoor.Own Go.Proofs.YtlibdhnlmekmhaaGreatDoor.Hp Go.Proofs.YtlibdhnlmekmhaaGreatDoor.Rep Go.Proofs.YtlibdhnlmekmhaaGreatDoor.Get Go.Proofs.YtlibdhnlmekmhaaGreatDoor.Add Go.Proofs.YtlibdhnlmekmhaaGreatDoor.Make Go.Proofs.YtlibdhnlmekmhaaGreatDoor.Utf Go.Proofs.YtlibdhnlmekmhaaGreatDoor.Strs
open Go.Proofs.YtlibdhnlmekmhaaGreatDoor.Nt hiding Wd

/-- A block of the caller's own, laid since w. -/
structure Mine (X : Fx) (w : World) (F : Nat → Prop) (b : Nat) : Prop where
  f : ¬ F b
  p : b ≠ X.p
  g : b ≠ X.g
  m : b ≠ X.mb
  low : X.w0.heap.size ≤ b
theorem PS.mine {X : Fx} {w : World} {a op b : Nat} {s : St} {F : Nat → Prop} (h : PS X w a op s F) (hb : w.heap.size ≤ b) : Mine X w F b where
  f := h.ht.fresh hb
  p := by have := h.blk.lt; omega
  g := by have := h.row.lt; omega
  m := by have := h.map.lt; omega
  low := Nat.le_trans h.below.size hb
theorem Mine.later {X : Fx} {w w1 w2 : World} {b : Nat} {F F' : Nat → Prop} (h : Mine X w F b) (hA : PAfter X w1 w2 F F') (hb : b < w1.heap.size) : Mine X w F' b := ⟨hA.old hb h.f, h.p, h.g, h.m, h.low⟩
/-- Two cells of such a block are written. -/
theorem PS.put2 {X : Fx} {w w1 : World} {a op b : Nat} {s : St} {F F' : Nat → Prop} (h : PS X w1 a op s F') (hm : Mine X w F' b) (hA : PAfter X w w1 F F') (hb : w.heap.size ≤ b) (x y : Value) :
    PS X ((w1.setCell ⟨b, 0, none⟩ x).setCell ⟨b, 1, none⟩ y) a op s F' ∧ PAfter X w ((w1.setCell ⟨b, 0, none⟩ x).setCell ⟨b, 1, none⟩ y) F F' := by
  have hk : Keeps (fun k => k = b) w1 ((w1.setCell ⟨b, 0, none⟩ x).setCell ⟨b, 1, none⟩ y) := (keeps_set w1 b 0 x).trans (keeps_set _ b 1 y)
  exact ⟨h.write hk hm.f hm.p hm.g hm.m hm.low, ⟨hA.keeps.then hk fun k hlt e => by omega, hA.grow⟩⟩
theorem PAfter.then_below {X : Fx} {w w1 w2 : World} {F F' : Nat → Prop} (h : PAfter X w w1 F F') (hb : Below w1.heap.size w1 w2) : PAfter X w w2 F F' := h.trans (.of_below hb)

/-- What a function makes of the word that a callee of its last statement returns: it lies in block n. -/
theorem Out.tail {X : Fx} {w w3 w4 : World} {op n : Nat} {F F3 : Nat → Prop} {Q : Res Wd} {e : Ending} (h : Out X w3 op F3 retW Q e w4) (hA : PAfter X w w3 F F3) (hM : Mine X w F3 n) (hn : w.heap.size ≤ n) (hB : Blk w3 n #[.int .i64 0, .int .i64 0] 28) :
    (∃ x : Wd, e = .returned (wd x) ∧ Blk w4 n #[.int .i64 0, .int .i64 0] 28 ∧ Out X w op F retW Q (.returned (wd x)) ((w4.setCell ⟨n, 0, none⟩ (.int .i64 x.1)).setCell ⟨n, 1, none⟩ (.int .i64 x.2))) ∨
    (∃ (c : Int) (k : Nat), e = .panicked [{ v := .iface 31 (.agg #[.int .i64 c, .int .i64 (k : Int)]), recovered := false }] ∧ Out X w op F retW Q (.panicked [{ v := .iface 31 (.agg #[.int .i64 c, .int .i64 (k : Int)]), recovered := false }]) w4) := by
  cases Q with
  | ok x s' =>
    obtain ⟨a', F', he, hP, hA2⟩ := h
    have hM2 := hM.later hA2 hB.lt
    have hf := hP.put2 hM2 (hA.trans hA2) hn (.int .i64 x.1) (.int .i64 x.2)
    exact .inl ⟨x, he, (hA2.blk hB hM.f hM.p).1, a', F', rfl, hf.1, hf.2⟩
  | err c m ob tb =>
    obtain ⟨he, F', hH, hA2⟩ := h
    exact .inr ⟨c, X.l.length - m, he, rfl, F', hH, hA.trans hA2⟩
/-- The symbol of a name. -/
def internR (s : St) (m : Nat) (u : ByteArray) : Res Wd :=
  if (internO s.tb u).2.1 = 0 then .ok (1, (internO s.tb u).1) ⟨s.rest, s.ob, (internO s.tb u).2.2⟩ else .err (internO s.tb u).2.1 m s.ob (internO s.tb u).2.2
theorem symG_intern (s : St) (acc r : List Int) : symG s acc r = internR ⟨r, s.ob, s.tb⟩ s.rest.length (strOf (enc acc)) := rfl
abbrev wbox0 : Obj := .cells #[.int .i64 0, .int .i64 0] 28

set_option maxHeartbeats 1000000 in
theorem PS.intern {X : Fx} {w : World} {a op : Nat} {s : St} {F : Nat → Prop} (h : PS X w a op s F) (hX : X.Ok) (u : ByteArray) (hu : u.size ≤ 4611686018427387904) (m k : Nat) (hk : k = X.l.length - m) :
    Calls Tryz.prog 170 #[pptr X.p, .string u, .int .i64 (k : Int)] w (Out X w op F retW (internR s m u)) := by
  have h1 := h.alloc wbox0
  have HI := Lib.hid (h1.ht.intern u hu (h1.sys hX).tabs)
  obtain ⟨_, c1, _, _, _, _⟩ := Blk.six h1.blk
  have hM := h.mine (Nat.le_refl _)
  have hA1 : PAfter X w (w.alloc wbox0) F F := .of_below ((Below.refl _ _).alloc (Nat.le_refl _) _)
  unfold internR
  obtain ⟨n, hn⟩ : ∃ n, (internO s.tb u).1 = n := ⟨_, rfl⟩
  obtain ⟨c, hc⟩ : ∃ c, (internO s.tb u).2.1 = c := ⟨_, rfl⟩
  obtain ⟨t, ht⟩ : ∃ t, (internO s.tb u).2.2 = t := ⟨_, rfl⟩
  rw [hn, hc, ht] at HI
  rw [hn, hc, ht]
  have HW : Hid (∀ w1, HTOk (w.alloc wbox0) w1 X.base X.hp X.lim X.tp s.ob t F → ∃ F', PS X w1 a op ⟨s.rest, s.ob, t⟩ F' ∧ PAfter X w w1 F F' ∧ Mine X w F' w.heap.size ∧ Blk w1 w.heap.size #[.int .i64 0, .int .i64 0] 28) := fun w1 hok => by
    obtain ⟨F', hP, hA⟩ := h1.ofHT hX hok
    exact ⟨F', hP, hA1.trans hA, hM.later hA (by simp), (hA.blk (Blk.new w _ _) hM.f hM.p).1⟩
  have HK := Lib.hid hk
  clear hn hc ht h1 hA1 hM h hk
  by_cases h0 : c = 0
  · subst h0
    rw [if_pos rfl]
    go_enter Tryz.func170, Tryz.ntmps170
    go_wp2_with fail
    refine HI.out.mono ?_
    rintro e w1 ⟨rfl, hok⟩
    obtain ⟨F', hP, hA, hM, hB⟩ := HW.out w1 hok
    obtain ⟨b0, b1, e0, e1⟩ := hB.two
    have HPp := Lib.hid (And.intro hP (And.intro hA hM))
    have HB := Lib.hid hB
    clear hok hP hA hM hB
    go_wp2_with (first
      | (go_at_call 120; refine (check_ok _ _).mono ?_; rintro e w2 ⟨rfl, rfl⟩))
    refine (symbol_any n _).mono ?_
    rintro e w2 ⟨rfl, hb2⟩
    have hB2 := HB.out.below hb2
    obtain ⟨d0, d1, g0, g1⟩ := hB2.two
    have HB2 := Lib.hid hb2
    clear hB2 hb2 b0 b1 e0 e1
    go_wp2_with fail
    refine bodyPost_ret (v := wd (1, n)) (by simp [results, Tryz.results170, go_sem, d0, d1]) rfl ?_
    obtain ⟨hP, hA, hM⟩ := HPp.out
    have := (hP.later HB2.out).put2 hM (hA.then_below HB2.out) (Nat.le_refl _) (.int .i64 1) (.int .i64 n)
    exact ⟨a, F', rfl, this.1, this.2⟩
  · rw [if_neg h0]
    have H0 := Lib.hid h0
    clear h0
    go_enter Tryz.func170, Tryz.ntmps170
    go_wp2_with fail
    refine HI.out.mono ?_
    rintro e w1 ⟨rfl, hok⟩
    obtain ⟨F', hP, hA, hM, hB⟩ := HW.out w1 hok
    have HPp := Lib.hid (And.intro hP hA)
    clear hok hP hA hM hB
    go_wp2_with (first
      | (go_at_call 120; refine (check_err c H0.out k _).mono ?_; rintro e w2 ⟨rfl, rfl⟩; unfold faultE))
    exact ⟨rfl, by rw [HK.out]; rfl, F', HPp.out.1.ht, HPp.out.2⟩

theorem bel_drew {w : World} : Below w.heap.size w w.drew := ⟨rfl, rfl, rfl, Nat.le_refl _, fun _ _ => rfl⟩
theorem bel_box (w : World) (o : Obj) : Below w.heap.size w (w.alloc o) := (Below.refl _ _).alloc (Nat.le_refl _) o
/-- What the region of cons loads. -/
def ConsCells (p b c : Nat) (hv : Value) (x y : Wd) (w : World) : Prop :=
  w.cell? ⟨p, 0, none⟩ = some hv ∧ w.cell? ⟨b, 0, none⟩ = some (.int .i64 x.1) ∧ w.cell? ⟨b, 1, none⟩ = some (.int .i64 x.2) ∧ w.cell? ⟨c, 0, none⟩ = some (.int .i64 y.1) ∧ w.cell? ⟨c, 1, none⟩ = some (.int .i64 y.2)
theorem consCells {X : Fx} {w : World} {a op b c : Nat} {s : St} {F : Nat → Prop} {x y : Wd} (h : PS X w a op s F) (hb : Blk w b #[.int .i64 x.1, .int .i64 x.2] 28) (hc : Blk w c #[.int .i64 y.1, .int .i64 y.2] 28) :
    ConsCells X.p b c (ptr X.hp) x y w := ⟨h.blk.cell 0 _ rfl, hb.cell 0 _ rfl, hb.cell 1 _ rfl, hc.cell 0 _ rfl, hc.cell 1 _ rfl⟩
/-- Behind the call of Cons. -/
structure Consed (X : Fx) (w W : World) (a op b c r : Nat) (s : St) (ob : Obs) (x y : Wd) (F F' : Nat → Prop) : Prop where
  ps : PS X W a op ⟨s.rest, ob, s.tb⟩ F'
  aft : PAfter X w W F F'
  b1 : Blk W b #[.int .i64 x.1, .int .i64 x.2] 28
  b2 : Blk W c #[.int .i64 y.1, .int .i64 y.2] 28
  b3 : Blk W r #[.int .i64 0, .int .i64 0] 28
  m3 : Mine X w F' r
theorem Consed.later {X : Fx} {w W W' : World} {a op b c r : Nat} {s : St} {ob : Obs} {x y : Wd} {F F' : Nat → Prop} (h : Consed X w W a op b c r s ob x y F F') (hb : Below W.heap.size W W') : Consed X w W' a op b c r s ob x y F F' :=
  ⟨h.ps.later hb, h.aft.then_below hb, h.b1.below hb, h.b2.below hb, h.b3.below hb, h.m3⟩
theorem Consed.cells {X : Fx} {w W : World} {a op b c r : Nat} {s : St} {ob : Obs} {x y : Wd} {F F' : Nat → Prop} (h : Consed X w W a op b c r s ob x y F F') : ConsCells X.p b c (ptr X.hp) x y W := consCells h.ps h.b1 h.b2
theorem Consed.put {X : Fx} {w W : World} {a op b c r B : Nat} {s : St} {ob : Obs} {x y : Wd} {F F' : Nat → Prop} (h : Consed X w W a op b c r s ob x y F F') (hm : Mine X w F' B) (hn : b ≠ B ∧ c ≠ B ∧ r ≠ B ∧ w.heap.size ≤ B) (u v : Value) :
    Consed X w ((W.setCell ⟨B, 0, none⟩ u).setCell ⟨B, 1, none⟩ v) a op b c r s ob x y F F' := by
  have hk : Keeps (fun k => k = B) W ((W.setCell ⟨B, 0, none⟩ u).setCell ⟨B, 1, none⟩ v) := (keeps_set W B 0 u).trans (keeps_set _ B 1 v)
  have := h.ps.put2 hm h.aft hn.2.2.2 u v
  exact ⟨this.1, this.2, h.b1.keeps hk hn.1, h.b2.keeps hk hn.2.1, h.b3.keeps hk hn.2.2.1, h.m3⟩

set_option maxHeartbeats 2000000 in
theorem PS.cons {X : Fx} {w : World} {a op : Nat} {s s0 : St} {F : Nat → Prop} (h : PS X w a op s F) (hX : X.Ok) (x y : Wd) (k : Nat) (hk : k = X.l.length - s0.rest.length) :
    Calls Tryz.prog 166 #[pptr X.p, wd x, wd y, .int .i64 (k : Int)] w (Out X w op F retW (consG X.lim s0 s x y)) := by
  obtain ⟨n, hn⟩ : ∃ n, w.heap.size = n := ⟨_, rfl⟩
  obtain ⟨W3, hW3⟩ : ∃ W3, W3 = ((w.alloc (.cells #[.int .i64 x.1, .int .i64 x.2] 28)).alloc (.cells #[.int .i64 y.1, .int .i64 y.2] 28)).alloc wbox0 := ⟨_, rfl⟩
  have hb3 : Below w.heap.size w W3 := by rw [hW3]; exact (((Below.refl _ _).alloc (Nat.le_refl _) _).alloc (by simp) _).alloc (by simp; omega) _
  have hz3 : W3.heap.size = n + 1 + 1 + 1 := by rw [hW3]; simp [hn]
  obtain ⟨B1, B2, B3⟩ := three_new (w := w) (a := #[.int .i64 x.1, .int .i64 x.2]) (b := #[.int .i64 y.1, .int .i64 y.2]) (c := #[.int .i64 0, .int .i64 0]) (s := 28) (t := 28) (u := 28) (w2 := W3) (by rw [hW3]; exact Below.refl _ _)
  have hP3 := h.later hb3
  have hA3 : PAfter X w W3 F F := .of_below hb3
  have m3 := h.mine (b := w.heap.size + 1 + 1) (by omega)
  have m1 := h.mine (b := w.heap.size) (Nat.le_refl _)
  have m2 := h.mine (b := w.heap.size + 1) (by omega)
  rw [hn] at B1 B2 B3 m1 m2 m3
  unfold consG
  obtain ⟨z, hz⟩ : ∃ z, (addO s.ob X.lim (.cons x y)).1 = z := ⟨_, rfl⟩
  obtain ⟨c, hc⟩ : ∃ c, (addO s.ob X.lim (.cons x y)).2.1 = c := ⟨_, rfl⟩
  obtain ⟨ob, hob⟩ : ∃ o, (addO s.ob X.lim (.cons x y)).2.2 = o := ⟨_, rfl⟩
  rw [hz, hc, hob]
  have hC : ∀ W, Below W3.heap.size W3 W → Calls Tryz.prog 55 #[ptr X.hp, wd x, wd y] W fun e w' => e = .returned (.tuple #[wd z, .int .i64 c]) ∧ ∃ F', Consed X w w' a op n (n + 1) (n + 1 + 1) s ob x y F F' ∧ PAfter X W w' F F' := fun W hW => by
    have := (hP3.later hW).ht.cons x y
    rw [hz, hc, hob] at this
    refine this.mono fun e w' ⟨he, hok⟩ => ⟨he, ?_⟩
    obtain ⟨F', hP, hA⟩ := (hP3.later hW).ofHT hX hok
    have lt : ∀ b, b < n + 1 + 1 + 1 → b < W.heap.size := fun b hb => by have := hW.size; omega
    exact ⟨F', ⟨hP, (hA3.then_below hW).trans hA, (hA.blk (B1.below hW) m1.f m1.p).1, (hA.blk (B2.below hW) m2.f m2.p).1, (hA.blk (B3.below hW) m3.f m3.p).1, m3.later hA (lt _ (by omega))⟩, hA⟩
  have hC2 : Calls Tryz.prog 55 #[ptr X.hp, wd x, wd y] (W3.alloc wbox0).drew fun e w' => e = .returned (.tuple #[wd z, .int .i64 c]) ∧ ∃ F', Consed X w w' a op n (n + 1) (n + 1 + 1) s ob x y F F' ∧ Blk w' W3.heap.size #[.int .i64 0, .int .i64 0] 28 ∧ Mine X w F' W3.heap.size := by
    have hbw : Below W3.heap.size W3 (W3.alloc wbox0).drew := (bel_box _ _).drew
    refine (hC _ hbw).mono fun e w' ⟨he, F', hc', hA⟩ => ⟨he, F', hc', ?_⟩
    have m4 := h.mine (b := W3.heap.size) (by omega)
    have hB4 : Blk (W3.alloc wbox0).drew W3.heap.size #[.int .i64 0, .int .i64 0] 28 := Blk.new W3 _ _
    exact ⟨(hA.blk hB4 m4.f m4.p).1, m4.later hA hB4.lt⟩
  have HC := Lib.hid hC
  have HC2 := Lib.hid hC2
  have hS := consCells hP3 B1 B2
  have HS := Lib.hid (fun W (hW : Below W3.heap.size W3 W) => consCells (hP3.later hW) (B1.below hW) (B2.below hW))
  obtain ⟨s0', s1, s2, s3, s4⟩ := hS
  have HK := Lib.hid hk
  have HNe := Lib.hid (show n ≠ W3.heap.size ∧ n + 1 ≠ W3.heap.size ∧ n + 1 + 1 ≠ W3.heap.size ∧ w.heap.size ≤ W3.heap.size by omega)
  have HZ := Lib.hid hz3
  have HN := Lib.hid hn
  have HBx := Lib.hid (bel_drew (w := W3))
  obtain ⟨R, hR⟩ : ∃ R, (if c = 0 then Res.ok z ⟨s.rest, ob, s.tb⟩ else Res.err c s0.rest.length ob s.tb) = R := ⟨_, rfl⟩
  rw [hR]
  have HR := Lib.hid hR
  clear hR
  clear hC hC2 hk m1 m2 m3 B1 B2 B3 hP3 hA3 hb3 hz3 hz hc hob h hn
  go_enter Tryz.func166, Tryz.ntmps166
  go_wp2_with fail
  rw [← hW3]
  have hn := HN.out
  rw [hn]
  clear hW3 hn
  go_region_held3 (fun w' => w'.cell? ⟨X.p, 0, none⟩ = some (.pointer (some ⟨X.hp, 0, none⟩)) ∧ w'.cell? ⟨n, 0, none⟩ = some (.int .i64 x.1) ∧ w'.cell? ⟨n, 1, none⟩ = some (.int .i64 x.2) ∧ w'.cell? ⟨n + 1, 0, none⟩ = some (.int .i64 y.1) ∧ w'.cell? ⟨n + 1, 1, none⟩ = some (.int .i64 y.2))
    (first | exact HQ.out.cells | exact (HQ.out.put HM4.out HNe.out _ _).cells | exact (HQ.out.later (bel_box _ _)).cells | exact HS.out _ HBx.out | exact HS.out _ (bel_box _ _).drew)
    (first
      | (go_at_call 55; refine (HC.out _ HBx.out).mono ?_; rintro e w7 ⟨rfl, F', hq, _⟩; have HQ := Lib.hid hq; clear hq)
      | (go_at_call 55; refine HC2.out.mono ?_; rintro e w7 ⟨rfl, F', hq, hb4, hm4⟩; obtain ⟨t0, t1, t2, t3⟩ := hb4.two; have HB4 := Lib.hid hb4; have HM4 := Lib.hid hm4; have HQ := Lib.hid hq; clear hq hb4 hm4))
  all_goals (
    first
      | (have hq8 := HQ.out.put HM4.out HNe.out (.int .i64 z.1) (.int .i64 z.2)
         have hb8 : Blk ((w7.setCell ⟨W3.heap.size, 0, none⟩ (.int .i64 z.1)).setCell ⟨W3.heap.size, 1, none⟩ (.int .i64 z.2)) W3.heap.size #[.int .i64 z.1, .int .i64 z.2] 28 := by simpa using (HB4.out.set 0 (.int .i64 z.1)).set 1 (.int .i64 z.2)
         obtain ⟨W8, hW8⟩ : ∃ W, (w7.setCell ⟨W3.heap.size, 0, none⟩ (.int .i64 z.1)).setCell ⟨W3.heap.size, 1, none⟩ (.int .i64 z.2) = W := ⟨_, rfl⟩
         rw [hW8] at hq8 hb8 ⊢
         obtain ⟨b8, hb8e⟩ : ∃ b, W3.heap.size = b := ⟨_, rfl⟩
         rw [hb8e] at hb8 ⊢
         clear t0 t1 t2 t3)
      | (have hq8 := HQ.out.later (bel_box _ (.cells #[.int .i64 z.1, .int .i64 z.2] 28))
         have hb8 := Blk.new w7 #[.int .i64 z.1, .int .i64 z.2] 28
         obtain ⟨W8, hW8⟩ : ∃ W, w7.alloc (.cells #[.int .i64 z.1, .int .i64 z.2] 28) = W := ⟨_, rfl⟩
         rw [hW8] at hq8 hb8 ⊢
         obtain ⟨b8, hb8e⟩ : ∃ b, w7.heap.size = b := ⟨_, rfl⟩
         rw [hb8e] at hb8 ⊢)
    clear hW8 hb8e s0' s1 s2 s3 s4
    obtain ⟨d0, d1, _, _⟩ := hb8.two
    obtain ⟨g0, g1, g2, g3⟩ := hq8.b3.two
    have HQ8 := Lib.hid hq8
    clear hq8 hb8
    by_cases h0 : c = 0
    · subst h0
      obtain rfl := (if_pos rfl).symm.trans HR.out
      go_wp2_with (first
        | (go_at_call 120; refine (check_ok _ _).mono ?_; rintro e w2 ⟨rfl, rfl⟩))
      have hf := HQ8.out.ps.put2 HQ8.out.m3 HQ8.out.aft (by have := HN.out; omega) (.int .i64 z.1) (.int .i64 z.2)
      refine bodyPost_ret (v := wd z) (by simp [results, Tryz.results166, go_sem, g0, g1, g2, g3]) rfl ⟨a, F', rfl, hf.1, hf.2⟩
    · obtain rfl := (if_neg h0).symm.trans HR.out
      have H0 := Lib.hid h0
      clear h0
      go_wp2_with (first
        | (go_at_call 120; refine (check_err c H0.out k _).mono ?_; rintro e w2 ⟨rfl, rfl⟩; unfold faultE))
      exact ⟨rfl, by rw [HK.out]; rfl, F', HQ8.out.ps.ht, HQ8.out.aft⟩)
end Go.Proofs.YtlibdhnlmekmhaaGreatDoor.Rd
end
