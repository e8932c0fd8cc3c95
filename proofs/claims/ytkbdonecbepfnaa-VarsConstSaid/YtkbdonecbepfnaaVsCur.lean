/- Variables and boxes of words beside them, in a world that has grown out of the law's first one. -/
import Derived.Test.YtkbdonecbepfnaaVsLives
namespace Go.Proofs.Ytkbdonecbepfnaa.Vs
set_option maxRecDepth 100000
open Go.RowKit
open Go.Proofs.Ytkbdonecbepfnaa.Own

/-- Variables s, and words in boxes of the law's own. -/
structure Cur (w0 W : World) (base vp : Nat) (s : Vs) (l : List (Nat × Wd)) : Prop where
  below : Below w0.heap.size w0 W
  low : w0.heap.size ≤ base
  high : base ≤ W.heap.size
  is : ∃ lab P, VsIs W base vp s lab P ∧ ∀ p ∈ l, Blk W p.1 #[.int .i64 p.2.1, .int .i64 p.2.2] 29 ∧ lab p.1 = none
theorem Cur.later {w0 W W' : World} {base vp : Nat} {s : Vs} {l : List (Nat × Wd)} (h : Cur w0 W base vp s l) (hb : Below W.heap.size W W') : Cur w0 W' base vp s l := by
  obtain ⟨lab, P, hI, hl⟩ := h.is
  exact ⟨h.below.trans (hb.mono h.below.size), h.low, Nat.le_trans h.high hb.size, lab, P, hI.below hb, fun p hp => ⟨(hl p hp).1.below hb, (hl p hp).2⟩⟩
theorem Cur.alloc {w0 W : World} {base vp : Nat} {s : Vs} {l : List (Nat × Wd)} (h : Cur w0 W base vp s l) (x : Wd) : Cur w0 (W.alloc (wbox x)) base vp s ((W.heap.size, x) :: l) := by
  have h1 := h.later (box_below W (wbox x))
  obtain ⟨lab, P, hI, hl⟩ := h.is
  refine ⟨h1.below, h1.low, h1.high, lab, P, hI.alloc _, fun p hp => ?_⟩
  rcases List.mem_cons.1 hp with rfl | hp
  · exact ⟨Blk.new W _ _, hI.fresh (Nat.le_refl _)⟩
  · exact ⟨(hl p hp).1.alloc _, (hl p hp).2⟩
theorem Cur.lift {w0 W : World} {base vp : Nat} {s s' : Vs} {l : List (Nat × Wd)} {f : FuncId} {args : Array Value} {r : Ending} (h : Cur w0 W base vp s l)
    (hc : ∀ lab P, VsIs W base vp s lab P → base ≤ W.heap.size → Calls Try.prog f args W fun e w' => e = r ∧ VsOk W w' base vp s' lab) : Calls Try.prog f args W fun e w' => e = r ∧ Cur w0 w' base vp s' l := by
  obtain ⟨lab, P, hI, hl⟩ := h.is
  refine (hc lab P hI h.high).mono ?_
  rintro e w' ⟨he, lab', P', hI', hA⟩
  have hB := VAfter.bel hI h.high hA
  refine ⟨he, h.below.trans (hB.mono h.low), h.low, Nat.le_trans h.high hA.keeps.size, lab', P', hI', fun p hp => ⟨hI.kept hA (hl p hp).1 (hl p hp).2 hI', hA.free (hl p hp).1.lt (hl p hp).2⟩⟩
theorem Cur.quiet {w0 W : World} {base vp : Nat} {s : Vs} {l : List (Nat × Wd)} {f : FuncId} {args : Array Value} {r : Ending} (h : Cur w0 W base vp s l)
    (hc : ∀ lab P, VsIs W base vp s lab P → Calls Try.prog f args W fun e w' => e = r ∧ Below W.heap.size W w') : Calls Try.prog f args W fun e w' => e = r ∧ Cur w0 w' base vp s l := by
  obtain ⟨lab, P, hI, _⟩ := h.is
  refine (hc lab P hI).mono ?_
  rintro e w' ⟨he, hb⟩
  exact ⟨he, h.later hb⟩
/-- The cells of a box, in whatever world that has grown. -/
theorem Cur.cells {w0 W : World} {base vp b : Nat} {x : Wd} {s : Vs} {l : List (Nat × Wd)} (h : Cur w0 W base vp s l) (hm : (b, x) ∈ l) : (∀ y : Grown W, y.w.cell? ⟨b, 0, none⟩ = some (.int .i64 x.1)) ∧ ∀ y : Grown W, y.w.cell? ⟨b, 1, none⟩ = some (.int .i64 x.2) := by
  obtain ⟨lab, P, hI, hl⟩ := h.is
  have hb := (hl _ hm).1
  exact ⟨fun y => (hb.below y.below).cell 0 _ rfl, fun y => (hb.below y.below).cell 1 _ rfl⟩
theorem Cur.cell {w0 W : World} {base vp b : Nat} {x : Wd} {s : Vs} {l : List (Nat × Wd)} (h : Cur w0 W base vp s l) (hm : (b, x) ∈ l) : W.cell? ⟨b, 0, none⟩ = some (.int .i64 x.1) ∧ W.cell? ⟨b, 1, none⟩ = some (.int .i64 x.2) := by
  obtain ⟨lab, P, hI, hl⟩ := h.is
  have hb := (hl _ hm).1
  exact ⟨hb.cell 0 _ rfl, hb.cell 1 _ rfl⟩
/-- New variables. -/
theorem Cur.start {w0 W W' : World} {l : List (Nat × Wd)} (h0 : Below w0.heap.size w0 W) (hb : Below W.heap.size W W') (hI : ∃ lab P, VsIs W' W.heap.size (W.heap.size + 1 + 1) sN lab P) (hl : ∀ p ∈ l, Blk W p.1 #[.int .i64 p.2.1, .int .i64 p.2.2] 29) : Cur w0 W' W.heap.size (W.heap.size + 1 + 1) sN l := by
  obtain ⟨lab, P, hI⟩ := hI
  refine ⟨h0.trans (hb.mono h0.size), h0.size, hb.size, lab, P, hI, fun p hp => ⟨(hl p hp).below hb, ?_⟩⟩
  cases hh : lab p.1 with
  | none => rfl
  | some x => have := (hI.inb _ _ hh).1; have := (hl p hp).lt; omega
end Go.Proofs.Ytkbdonecbepfnaa.Vs
