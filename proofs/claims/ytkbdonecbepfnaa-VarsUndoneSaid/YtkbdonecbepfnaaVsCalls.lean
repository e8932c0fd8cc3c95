/- The contracts of SetDefault, Set, Clear, SetLocal, MakeLocal, SetScope, Scope, Depth, Get and Local. -/
import Derived.Test.YtkbdonecbepfnaaVsStore
import Derived.RegionTactic
import Derived.Deep.RegionWith
import Derived.Deep.RegionHeld3
import Derived.ChangeAlike
import Derived.Deep.QuietTactic
import Derived.BigQuiet
namespace Go.Proofs.Ytkbdonecbepfnaa.Vs
open Go.RowKit Go.Maps
open Go.Proofs.Ytkbdonecbepfnaa.Own
set_option maxRecDepth 100000

theorem changeO_cases (s : Vs) (n : Int) : (changeO s n = 0 ∧ 0 ≤ n ∧ n < 16384) ∨ changeO s n = 8 ∨ changeO s n = 10 := by
  unfold changeO
  by_cases h : 0 ≤ n ∧ n < 16384
  · cases hm : markB s n 2
    · exact .inl ⟨by simp [h], h⟩
    · exact .inr (.inr (by simp [h]))
  · exact .inr (.inl (if_neg h))
theorem checkO_cases (n : Int) : (checkO n = 0 ∧ 0 ≤ n ∧ n < 16384) ∨ checkO n = 8 := by
  unfold checkO
  by_cases h : 0 ≤ n ∧ n < 16384
  · exact .inl ⟨if_pos h, h⟩
  · exact .inr (if_neg h)
abbrev wbox (x : Wd) : Obj := .cells #[.int .i64 x.1, .int .i64 x.2] 29
abbrev cbox (c : Cl) : Obj := .cells (clc c) 62
theorem box_below (w : World) (o : Obj) : Below w.heap.size w (w.alloc o) := (Below.refl _ _).alloc (Nat.le_refl _) _
theorem box_base {w : World} {base : Nat} (h : base ≤ w.heap.size) (o : Obj) : base ≤ (w.alloc o).heap.size := by simp; omega
theorem homeO_ok {w : World} {base vp : Nat} {s : Vs} {lab : Nat → Option VLab} {P : VParts} (h : VsIs w base vp s lab P) (n : Int) : 0 ≤ homeO s n ∧ homeO s n ≤ 65536 := by
  have := h.sok
  unfold homeO
  split <;> omega

def setDefaultO (s : Vs) (n : Int) (x : Wd) : Int × Vs := if changeO s n = 0 then (0, putC s n 0 (x, true)) else (changeO s n, s)
set_option maxHeartbeats 1000000 in
theorem setDefault_any {w : World} {base vp : Nat} {s : Vs} {lab : Nat → Option VLab} {P : VParts} (h : VsIs w base vp s lab P) (hb : base ≤ w.heap.size) (n : Int) (x : Wd) (hn : Wf n) : Calls Try.prog 20 #[vptr vp, .int .i64 n, wdv x] w fun e w' => e = .returned (.int .i64 (setDefaultO s n x).1) ∧ VsOk w w' base vp (setDefaultO s n x).2 lab := by
  have hB := box_below w (wbox x)
  have h1 := h.below hB
  have HC := Lib.hid (checkChange_any h1 n hn)
  unfold setDefaultO
  rcases changeO_cases s n with ⟨e, hr⟩ | e | e
  · rw [e] at HC
    rw [if_pos e]
    have HS := Lib.hid (store_any h1 (box_base hb _) n 0 (x, true) hr (by omega))
    have HB := Lib.hid hB
    clear h h1 hB e hr hn hb
    go_enter Try.func20, Try.ntmps20
    go_wp2_with fail
    refine HC.out.mono ?_
    rintro e w' ⟨rfl, rfl⟩
    go_wp2_with fail
    refine HS.out.mono ?_
    rintro e w' ⟨rfl, hok⟩
    go_wp2_with fail
    go_ret
    exact ⟨rfl, hok.first HB.out⟩
  · rw [e] at HC
    rw [if_neg (by omega), e]
    have HF := Lib.hid (VsOk.of h hB)
    clear h h1 hB e hn hb
    go_enter Try.func20, Try.ntmps20
    go_wp2_with fail
    refine HC.out.mono ?_
    rintro e w' ⟨rfl, rfl⟩
    go_wp2_with fail
    go_ret
    exact ⟨rfl, HF.out⟩
  · rw [e] at HC
    rw [if_neg (by omega), e]
    have HF := Lib.hid (VsOk.of h hB)
    clear h h1 hB e hn hb
    go_enter Try.func20, Try.ntmps20
    go_wp2_with fail
    refine HC.out.mono ?_
    rintro e w' ⟨rfl, rfl⟩
    go_wp2_with fail
    go_ret
    exact ⟨rfl, HF.out⟩

def setO (s : Vs) (n : Int) (c : Cl) : Int × Vs := if changeO s n = 0 then (0, putC s n (homeO s n) c) else (changeO s n, s)
set_option maxHeartbeats 1000000 in
theorem change_any {w : World} {base vp : Nat} {s : Vs} {lab : Nat → Option VLab} {P : VParts} (h : VsIs w base vp s lab P) (hb : base ≤ w.heap.size) (n : Int) (c : Cl) (hn : Wf n) : Calls Try.prog 51 #[vptr vp, .int .i64 n, clv c] w fun e w' => e = .returned (.int .i64 (setO s n c).1) ∧ VsOk w w' base vp (setO s n c).2 lab := by
  have hB := box_below w (cbox c)
  have h1 := h.below hB
  have HC := Lib.hid (checkChange_any h1 n hn)
  unfold setO
  rcases changeO_cases s n with ⟨e, hr⟩ | e | e
  · rw [e] at HC
    rw [if_pos e]
    have HH := Lib.hid (fun W (hW : Below (w.alloc (cbox c)).heap.size (w.alloc (cbox c)) W) => home_any (h1.below hW) n hn)
    have HS := Lib.hid (fun W (hW : Below (w.alloc (cbox c)).heap.size (w.alloc (cbox c)) W) => (store_any (h1.below hW) (Nat.le_trans (box_base hb _) hW.size) n (homeO s n) c hr (homeO_ok h n)).mono (R' := fun e w' => e = .returned (.tuple #[]) ∧ VsOk w w' base vp (putC s n (homeO s n) c) lab) (fun _ _ ⟨he, hok⟩ => ⟨he, hok.first (hB.trans (hW.mono hB.size))⟩))
    have hmx : Try.prog.follows .mixedOrders = true := by kernel_rfl
    obtain ⟨b0, b1, b2⟩ := blk_three (Blk.new w (clc c) 62)
    clear h h1 hB e hr hn hb
    go_enter Try.func51, Try.ntmps51
    go_wp2_with fail
    refine HC.out.mono ?_
    rintro e w' ⟨rfl, rfl⟩
    go_wp2_with fail
    go_region_with (first | (go_at_call 40; refine (HH.out _ (by first | exact Below.refl _ _ | exact (Below.refl _ _).drew)).mono ?_; rintro e w' ⟨rfl, rfl⟩) | (go_at_call 38; refine (HS.out _ (by first | exact Below.refl _ _ | exact (Below.refl _ _).drew)).mono ?_; rintro e w' ⟨rfl, hok⟩))
    all_goals (
      go_wp2_with fail
      go_ret
      exact ⟨rfl, hok⟩)
  · rw [e] at HC
    rw [if_neg (by omega), e]
    have HF := Lib.hid (VsOk.of h hB)
    clear h h1 hB e hn hb
    go_enter Try.func51, Try.ntmps51
    go_wp2_with fail
    refine HC.out.mono ?_
    rintro e w' ⟨rfl, rfl⟩
    go_wp2_with fail
    go_ret
    exact ⟨rfl, HF.out⟩
  · rw [e] at HC
    rw [if_neg (by omega), e]
    have HF := Lib.hid (VsOk.of h hB)
    clear h h1 hB e hn hb
    go_enter Try.func51, Try.ntmps51
    go_wp2_with fail
    refine HC.out.mono ?_
    rintro e w' ⟨rfl, rfl⟩
    go_wp2_with fail
    go_ret
    exact ⟨rfl, HF.out⟩
end Go.Proofs.Ytkbdonecbepfnaa.Vs
