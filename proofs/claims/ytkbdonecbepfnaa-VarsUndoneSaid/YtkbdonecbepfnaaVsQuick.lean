/- The contracts of valid, isScope, check, marked, Special, Const, checkChange, IsLocal, home and content. -/
import Derived.Test.YtkbdonecbepfnaaVsTab
import Derived.StillTailTactics
import Derived.PlainAid
namespace Go.Proofs.Ytkbdonecbepfnaa.Vs
open Go.RowKit Go.Maps
open Go.Proofs.Ytkbdonecbepfnaa.Own
set_option maxRecDepth 100000

theorem neqMap1 (w : World) (b : Nat) : (binOp .neq 52 (.map (some b)) (.map none)).run Try.prog w = .ok (.bool true) w := by kernel_rfl
theorem eqlMap2 (w : World) (b : Nat) : (binOp .eql 66 (.map (some b)) (.map none)).run Try.prog w = .ok (.bool false) w := by kernel_rfl
theorem eqlMap2n (w : World) : (binOp .eql 66 (.map none) (.map none)).run Try.prog w = .ok (.bool true) w := by kernel_rfl
theorem neqPtr (w : World) (b : Nat) : (binOp .neq 67 (.pointer (some ⟨b, 0, none⟩)) (.pointer none)).run Try.prog w = .ok (.bool true) w := by kernel_rfl
theorem neqPtrn (w : World) : (binOp .neq 67 (.pointer none) (.pointer none)).run Try.prog w = .ok (.bool false) w := by kernel_rfl
abbrev vptr (vp : Nat) : Value := .pointer (some ⟨vp, 0, none⟩)

theorem valid_none (w : World) : Calls Try.prog 35 #[.pointer none] w fun e w' => e = .returned (.bool false) ∧ w = w' := by
  go_enter Try.func35, Try.ntmps35
  go_wp2
  go_ret
  exact ⟨rfl, rfl⟩
theorem VsIs.valid {w : World} {base vp : Nat} {s : Vs} {lab : Nat → Option VLab} {P : VParts} (h : VsIs w base vp s lab P) : Calls Try.prog 35 #[vptr vp] w fun e w' => e = .returned (.bool true) ∧ w = w' := by
  obtain ⟨c0, c1, c2, c3⟩ := h.blk.four
  have q := neqMap1 w P.cb
  clear h
  go_enter Try.func35, Try.ntmps35
  go_wp2
  go_ret
  exact ⟨rfl, rfl⟩
def isScopeB (k : Int) : Bool := decide (1 ≤ k ∧ k ≤ 65536)
theorem isScope_any (k : Int) (w : World) : Calls Try.prog 43 #[.int .i64 k] w fun e w' => e = .returned (.bool (isScopeB k)) ∧ w = w' := by
  unfold isScopeB
  by_cases h1 : 1 ≤ k
  · by_cases h2 : k ≤ 65536
    · rw [decide_eq_true ⟨h1, h2⟩]
      go_enter Try.func43, Try.ntmps43
      go_wp2
      go_ret
      exact ⟨rfl, rfl⟩
    · rw [decide_eq_false (by omega)]
      go_enter Try.func43, Try.ntmps43
      go_wp2
      go_ret
      exact ⟨rfl, rfl⟩
  · rw [decide_eq_false (by omega)]
    go_enter Try.func43, Try.ntmps43
    go_wp2
    go_ret
    exact ⟨rfl, rfl⟩

/-- The error of a variable's number. -/
def checkO (n : Int) : Int := if 0 ≤ n ∧ n < 16384 then 0 else 8
theorem check_any {w : World} {base vp : Nat} {s : Vs} {lab : Nat → Option VLab} {P : VParts} (h : VsIs w base vp s lab P) (n : Int) : Calls Try.prog 50 #[vptr vp, .int .i64 n] w fun e w' => e = .returned (.int .i64 (checkO n)) ∧ w = w' := by
  have HV := Lib.hid h.valid
  clear h
  unfold checkO
  by_cases h1 : n < 0
  · rw [if_neg (by omega)]
    go_enter Try.func50, Try.ntmps50
    go_wp2_with fail
    refine HV.out.mono ?_
    rintro e w' ⟨rfl, rfl⟩
    go_wp2
    go_ret
    exact ⟨rfl, rfl⟩
  · by_cases h2 : 16384 ≤ n
    · rw [if_neg (by omega)]
      go_enter Try.func50, Try.ntmps50
      go_wp2_with fail
      refine HV.out.mono ?_
      rintro e w' ⟨rfl, rfl⟩
      go_wp2
      go_ret
      exact ⟨rfl, rfl⟩
    · rw [if_pos (by omega)]
      go_enter Try.func50, Try.ntmps50
      go_wp2_with fail
      refine HV.out.mono ?_
      rintro e w' ⟨rfl, rfl⟩
      go_wp2
      go_ret
      exact ⟨rfl, rfl⟩

/-- Does a variable have a mark? -/
def markB (s : Vs) (n m : Int) : Bool := match s.marks n with
  | none => false
  | some v => decide ((v = 3) ∨ v = m)
theorem marked_any {w : World} {base vp : Nat} {s : Vs} {lab : Nat → Option VLab} {P : VParts} (h : VsIs w base vp s lab P) (n m : Int) (hn : Wf n) (hm : m = 1 ∨ m = 2) : Calls Try.prog 53 #[vptr vp, .int .i64 n, .int .u8 m] w fun e w' => e = .returned (.bool (markB s n m)) ∧ w = w' := by
  have HV := Lib.hid h.valid
  obtain ⟨c0, c1, c2, c3⟩ := h.blk.four
  have hl := h.marks.look mapT3 (zero3 w) hn
  unfold markB
  cases hs : s.marks n with
  | none =>
    simp only [mkF, hs, Option.map_none, Option.getD_none] at hl
    clear h hs
    rcases hm with rfl | rfl
    · go_enter Try.func53, Try.ntmps53
      go_wp2_with fail
      refine HV.out.mono ?_
      rintro e w' ⟨rfl, rfl⟩
      go_wp2
      go_ret
      exact ⟨rfl, rfl⟩
    · go_enter Try.func53, Try.ntmps53
      go_wp2_with fail
      refine HV.out.mono ?_
      rintro e w' ⟨rfl, rfl⟩
      go_wp2
      go_ret
      exact ⟨rfl, rfl⟩
  | some v =>
    simp only [mkF, hs, Option.map_some, Option.getD_some] at hl
    have hv := h.mok n v hs
    clear h hs
    rcases hm with rfl | rfl <;> rcases hv with rfl | rfl | rfl
    all_goals
      go_enter Try.func53, Try.ntmps53
      go_wp2_with fail
      refine HV.out.mono ?_
      rintro e w' ⟨rfl, rfl⟩
      go_wp2
      go_ret
      exact ⟨rfl, rfl⟩
theorem const_any {w : World} {base vp : Nat} {s : Vs} {lab : Nat → Option VLab} {P : VParts} (h : VsIs w base vp s lab P) (n : Int) (hn : Wf n) : Calls Try.prog 31 #[vptr vp, .int .i64 n] w fun e w' => e = .returned (.bool (markB s n 2)) ∧ w = w' := by
  have HM := Lib.hid (marked_any h n 2 hn (.inr rfl))
  clear h
  go_enter Try.func31, Try.ntmps31
  go_wp2_with fail
  refine HM.out.mono ?_
  rintro e w' ⟨rfl, rfl⟩
  go_wp2
  go_ret
  exact ⟨rfl, rfl⟩
theorem special_any {w : World} {base vp : Nat} {s : Vs} {lab : Nat → Option VLab} {P : VParts} (h : VsIs w base vp s lab P) (n : Int) (hn : Wf n) : Calls Try.prog 30 #[vptr vp, .int .i64 n] w fun e w' => e = .returned (.bool (markB s n 1)) ∧ w = w' := by
  have HM := Lib.hid (marked_any h n 1 hn (.inl rfl))
  clear h
  go_enter Try.func30, Try.ntmps30
  go_wp2_with fail
  refine HM.out.mono ?_
  rintro e w' ⟨rfl, rfl⟩
  go_wp2
  go_ret
  exact ⟨rfl, rfl⟩

/-- The error of a change. -/
def changeO (s : Vs) (n : Int) : Int := if 0 ≤ n ∧ n < 16384 then (if markB s n 2 then 10 else 0) else 8
theorem checkChange_any {w : World} {base vp : Nat} {s : Vs} {lab : Nat → Option VLab} {P : VParts} (h : VsIs w base vp s lab P) (n : Int) (hn : Wf n) : Calls Try.prog 39 #[vptr vp, .int .i64 n] w fun e w' => e = .returned (.int .i64 (changeO s n)) ∧ w = w' := by
  have HC := Lib.hid (check_any h n)
  have HM := Lib.hid (const_any h n hn)
  clear h
  unfold changeO
  by_cases h1 : 0 ≤ n ∧ n < 16384
  · rw [if_pos h1]
    rw [show checkO n = 0 from if_pos h1] at HC
    cases hm : markB s n 2
    · rw [hm] at HM
      clear h1 hm
      go_enter Try.func39, Try.ntmps39
      go_wp2_with fail
      refine HC.out.mono ?_
      rintro e w' ⟨rfl, rfl⟩
      go_wp2_with fail
      refine HM.out.mono ?_
      rintro e w' ⟨rfl, rfl⟩
      go_wp2
      go_ret
      exact ⟨rfl, rfl⟩
    · rw [hm] at HM
      clear h1 hm
      go_enter Try.func39, Try.ntmps39
      go_wp2_with fail
      refine HC.out.mono ?_
      rintro e w' ⟨rfl, rfl⟩
      go_wp2_with fail
      refine HM.out.mono ?_
      rintro e w' ⟨rfl, rfl⟩
      go_wp2
      go_ret
      exact ⟨rfl, rfl⟩
  · rw [if_neg h1]
    rw [show checkO n = 8 from if_neg h1] at HC
    clear h1 HM
    go_enter Try.func39, Try.ntmps39
    go_wp2_with fail
    refine HC.out.mono ?_
    rintro e w' ⟨rfl, rfl⟩
    go_wp2
    go_ret
    exact ⟨rfl, rfl⟩
end Go.Proofs.Ytkbdonecbepfnaa.Vs
