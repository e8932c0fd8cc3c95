/- The contracts of the statements' small functions; a region that draws its order, whose calls may make memory. -/
import Derived.Test.YtkbdonecbepfnaaVsUnbind3
import Derived.Test.YtkbdonecbepfnaaVsNew
import Derived.BigGuardPart
import Derived.Laws.StructEq
import Derived.IntWalk
namespace Go.Proofs.Ytkbdonecbepfnaa.Vs
set_option maxRecDepth 100000
open Go.RowKit
open Go.Proofs.Ytkbdonecbepfnaa.Own

/-- A world that has only grown since w0. -/
structure Grown (w0 : World) where
  w : World
  below : Below w0.heap.size w0 w
instance grownNonempty (w0 : World) : Nonempty (Grown w0) := ⟨⟨w0, Below.refl _ _⟩⟩
theorem wp_region_grown {P : Program} {id : Nat} {Q : Exit → Act → World → Prop} {a : Act} {w : World} {l : List Oper} (w0 : World) (hb : Below w0.heap.size w0 w) (hm : P.follows .mixedOrders = true) (hB : Region.lexB .any l.toArray = true)
    (h : wpQuiet P l.toArray (fun w' => ∃ x : Grown w0, w' = x.w) (fun a' => ∀ w', (∃ x : Grown w0, w' = x.w) → Q .normal a' w') l a) : (Code.region id l.toArray true).wp P Q a w :=
  wp_region_quiet (C := fun w' => ∃ x : Grown w0, w' = x.w) hm hB ⟨⟨{ w with drawn := w.drawn + 1 }, ⟨hb.os, hb.tape, hb.output, hb.size, hb.block⟩⟩, rfl⟩ (by simpa using h)
/-- A call in such a region. -/
theorem grown_call {P : Program} {f : FuncId} {args : Array Value} {w0 : World} {x : Grown w0} {v : Value} (h : ∀ w, Below w0.heap.size w0 w → Calls P f args w fun e w' => e = .returned v ∧ Below w.heap.size w w') :
    Calls P f args x.w fun e w'' => e = .returned v ∧ ∃ y : Grown w0, w'' = y.w :=
  (h x.w x.below).mono fun _ w' ⟨he, hb⟩ => ⟨he, ⟨w', x.below.trans (hb.mono x.below.size)⟩, rfl⟩
theorem same_below {P : Program} {f : FuncId} {args : Array Value} {w : World} {v : Value} (h : Calls P f args w fun e w' => e = .returned v ∧ w = w') : Calls P f args w fun e w' => e = .returned v ∧ Below w.heap.size w w' :=
  h.mono fun _ _ ⟨he, hw⟩ => ⟨he, by subst hw; exact Below.refl _ _⟩

theorem int_any (n : Int) (w : World) : Calls Try.prog 54 #[.int .i64 n] w fun e w' => e = .returned (wdv (0, n)) ∧ Below w.heap.size w w' := by
  go_enter Try.func54, Try.ntmps54
  go_wp2
  refine bodyPost_ret (v := wdv (0, n)) (by simp [results, Try.results54, go_sem]) rfl ⟨rfl, (Below.refl _ _).alloc (Nat.le_refl _) _⟩
theorem int1_any (n : Int) (w : World) : Calls Try.prog 33 #[.int .i64 n] w fun e w' => e = .returned (wdv (0, n)) ∧ Below w.heap.size w w' := by
  have HS := Lib.hid (int_any n)
  go_enter Try.func33, Try.ntmps33
  go_wp2_with fail
  refine (HS.out _).mono ?_
  rintro e w1 ⟨rfl, hb⟩
  obtain ⟨b0, b1, e0, e1⟩ := (one_new hb).two
  go_wp2_with fail
  refine bodyPost_ret (v := wdv (0, n)) (by simp [results, Try.results33, go_sem, b0, b1]) rfl ⟨rfl, ?_⟩
  exact ((((Below.refl w.heap.size w).alloc (Nat.le_refl _) _).trans (hb.mono (by simp))).setCell (by simp) _).setCell (by simp) _

/-- The number that Pick picks. -/
def pickZ (x n : Int) : Int := if x.tmod n < 0 then x.tmod n + n else x.tmod n
theorem pick_range (x n : Int) (h : 0 < n) : 0 ≤ pickZ x n ∧ pickZ x n < n := by
  have h1 := Int.tmod_lt_of_pos x h
  have h2 := Int.lt_tmod_of_pos x h
  unfold pickZ
  split <;> omega
set_option maxHeartbeats 1000000 in
theorem pick_any (x n : Int) (w : World) (h : 0 < n) (hn : n ≤ 4611686018427387904) :
    Calls Try.prog 12 #[.int .i64 x, .int .i64 n] w fun e w' => e = .returned (.int .i64 (pickZ x n)) ∧ w = w' := by
  have h1 := Int.tmod_lt_of_pos x h
  have h2 := Int.lt_tmod_of_pos x h
  unfold pickZ
  by_cases hneg : x.tmod n < 0
  · rw [if_pos hneg]
    go_enter Try.func12, Try.ntmps12
    go_wp2
    go_ret
    exact ⟨rfl, rfl⟩
  · rw [if_neg hneg]
    go_enter Try.func12, Try.ntmps12
    go_wp2
    go_ret
    exact ⟨rfl, rfl⟩
/-- .. as a natural number. -/
theorem pick_nat (x : Int) (n : Int) (h : 0 < n) (hn : n ≤ 1000000) : ∃ k : Nat, (k : Int) < n ∧ ∀ w, Calls Try.prog 12 #[.int .i64 x, .int .i64 n] w fun e w' => e = .returned (.int .i64 (k : Int)) ∧ w = w' := by
  obtain ⟨k, hk⟩ := Int.eq_ofNat_of_zero_le (pick_range x n (by omega)).1
  have h2 := (pick_range x n (by omega)).2
  exact ⟨k, by omega, fun w => by rw [← hk]; exact pick_any x n w (by omega) (by omega)⟩

set_option maxHeartbeats 1000000 in
/-- Unbind where the number is too great. -/
theorem unbind_more {w : World} {base vp : Nat} {s : Vs} {lab : Nat → Option VLab} {P : VParts} (h : VsIs w base vp s lab P) (depth : Int) (hd : (s.binds.length : Int) < depth) :
    Calls Try.prog 16 #[vptr vp, .int .i64 depth] w fun e w' => e = .returned (.int .i64 3) ∧ Below w.heap.size w w' := by
  have hB := box_below w (.cells #[vptr vp] 24)
  have h1 := h.below hB
  have HV := Lib.hid h1.valid
  obtain ⟨A, cap, hbv⟩ := h.bvForm
  obtain ⟨_, _, _, c3'⟩ := h1.blk.four
  have c3 := c3'.trans (congrArg some hbv)
  have v0 := (Blk.new w #[vptr vp] 24).cell 0 _ rfl
  have HF := Lib.hid hB
  obtain ⟨m, hm⟩ : ∃ m, s.binds.length = m := ⟨_, rfl⟩
  rw [hm] at c3 hd
  clear h h1 hB hbv c3' hm
  have h0 : ¬ depth < 0 := by omega
  go_enter Try.func16, Try.ntmps16
  go_wp2_with fail
  refine HV.out.mono ?_
  rintro e w' ⟨rfl, rfl⟩
  go_wp2_with fail
  go_ret
  exact ⟨rfl, HF.out⟩

/-! ### New variables -/
theorem sN_eq : sN = ⟨fun j => if j = 0 then true else if j = 0 then true else false, fun j m => if j = 0 ∧ m = 1 then some ((1, 1), true) else if j = 0 ∧ m = 0 then some ((1, 0), true) else none, fun j => if j = 1 then some 3 else if j = 0 then some 3 else none, 0, []⟩ := by kernel_rfl
theorem sN_cells (k n : Int) (hn : 2 ≤ n) : sN.cells k n = none := by
  rw [sN_eq]
  simp only
  rw [if_neg (by omega), if_neg (by omega)]
theorem sN_marks (n : Int) (hn : 2 ≤ n) : sN.marks n = none := by
  rw [sN_eq]
  simp only
  rw [if_neg (by omega), if_neg (by omega)]
theorem sN_has (j : Int) : sN.has j = decide (j = 0) := by
  rw [sN_eq]
  by_cases e : j = 0 <;> simp [e]
theorem sN_scope : sN.scope = 0 := by rw [sN_eq]
theorem sN_binds : sN.binds = [] := by rw [sN_eq]
end Go.Proofs.Ytkbdonecbepfnaa.Vs
