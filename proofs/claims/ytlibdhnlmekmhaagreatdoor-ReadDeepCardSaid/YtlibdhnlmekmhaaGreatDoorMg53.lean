/- Slices of strings and of bools that came in as arguments. | A slice of ints, or of bools, that came in. -/
import Derived.SliceStrings
import Derived.Lib.SmallJoins
import Derived.Deep.Grids
import Derived.ChangeArms
import Derived.Test.YtlibdhnlmekmhaaGreatDoorMg12
import Derived.Test.YtlibdhnlmekmhaaGreatDoorMg17
/- Slices of strings and of bools that came in as arguments. -/
section
namespace Go.Proofs.YtlibdhnlmekmhaaGreatDoor.NtArgs
set_option maxRecDepth 100000
open Go.ChangeShapes Go.WideShapes Go.ChangeAt Go.RowKit Go.Deep
open Go.Proofs.YtlibdhnlmekmhaaGreatDoor.Clone

/-- Cells that lie one behind the other, by their places. -/
theorem one_at {W : World} {a : Addr} {n : Nat} {f : Nat → Value} (h : ∀ i, i < n → W.cell? (a.add i) = some (f i)) (h0 : 0 < n) : ∃ b off, a = ⟨b, off, none⟩ ∧ ∀ i, i < n → W.cell? ⟨b, off + i, none⟩ = some (f i) := by
  obtain ⟨b, off, spot⟩ := a
  have hspot : spot = none := by simpa [Addr.add] using World.cell?_spot (h 0 h0)
  subst hspot
  refine ⟨b, off, rfl, fun i hi => ?_⟩
  have := h i hi
  rwa [Go.WideShapes.add_plain] at this
theorem slr_of {W : World} {a : Addr} {n c : Nat} {xs : List Value} (h : ∀ i u, xs[i]? = some u → W.cell? (a.add i) = some u) (hn : xs.length = n) (hc : n ≤ c) : SlR W (.slice (some a) n c) n xs := by
  refine ⟨some a, c, rfl, hc, fun h0 => ?_⟩
  obtain ⟨b, off, ha, hh⟩ := one_at (W := W) (a := a) (n := n) (f := fun i => xs.getD i undef) (fun i hi => h i _ (by simp [List.getD, List.getElem?_eq_getElem (show i < xs.length by omega)])) h0
  refine ⟨b, off, by rw [ha], fun j u hj => ?_⟩
  have := hh j (by rw [← hn]; exact (List.getElem?_eq_some_iff.1 hj).1)
  rw [this]
  simp [List.getD, hj]
set_option maxRecDepth 100000 in
theorem strs_open {H : Type} {enc : TypeId × Value → H} {W : World} {base : Nat} {v : Value} {d : DataW H} {p : List MemPlace} (hv : Value.okWide Tryz.prog W .any base 56 v) (h : DataW.Trod enc Tryz.prog W 0 (fun _ => true) true 56 v d p) :
    ∃ l : List ByteArray, SlR W v l.length (l.map Value.string) ∧ l.length ≤ 9223372036854775807 ∧ ∀ s ∈ l, s.size ≤ maxLen := by
  obtain ⟨a0, len0, cap0, rfl⟩ := okWide_slice Tryz.underlying56 hv
  obtain ⟨fuel, hf⟩ := h
  rcases open_strings Tryz.underlying56 Tryz.underlying9 (by kernel_rfl) hf with ⟨hcs, _⟩ | ⟨a, len, cap, ss, hcs, _, hl, hm, hss, _, hcell, hsz⟩
  · simp [Value.cells] at hcs
    obtain ⟨rfl, rfl, rfl⟩ := hcs
    exact ⟨[], ⟨none, 0, rfl, Nat.le_refl _, fun h0 => absurd h0 (by simp)⟩, by simp, fun x hx => by simp at hx⟩
  · simp [Value.cells] at hcs
    obtain ⟨rfl, rfl, rfl⟩ := hcs
    have hle : len0 ≤ ss.length := by rw [hss]; split <;> omega
    unfold maxLen at hm
    have hlen : (ss.take len0).length = len0 := by rw [List.length_take]; omega
    refine ⟨ss.take len0, ?_, by rw [hlen]; omega, fun s hs => hsz s (List.mem_of_mem_take hs)⟩
    rw [hlen]
    refine slr_of (fun i u hu => ?_) (by rw [List.length_map, hlen]) hl
    rw [List.getElem?_map, List.getElem?_take] at hu
    split at hu
    · rename_i hi
      have hi2 : i < ss.length := by omega
      rw [hcell i hi2]
      simp only [List.getElem?_eq_getElem hi2, Option.map_some, Option.some.injEq] at hu
      rw [← hu]
      simp [List.getD, List.getElem?_eq_getElem hi2]
    · cases hu
set_option maxRecDepth 100000 in
theorem bools_open {H : Type} {enc : TypeId × Value → H} {W : World} {base : Nat} {v : Value} {d : DataW H} {p : List MemPlace} (hv : Value.okWide Tryz.prog W .any base 51 v) (h : DataW.Trod enc Tryz.prog W 0 (fun _ => true) true 51 v d p) :
    ∃ l : List Bool, SlR W v l.length (l.map Value.bool) ∧ l.length ≤ 9223372036854775807 := by
  obtain ⟨a0, len0, cap0, rfl⟩ := okWide_slice Tryz.underlying51 hv
  obtain ⟨fuel, hf⟩ := h
  rcases open_bools Tryz.underlying51 Tryz.underlying4 (by kernel_rfl) hf with ⟨hcs, _⟩ | ⟨a, len, cap, B, hcs, _, hl, hm, _, hcell⟩
  · simp [Value.cells] at hcs
    obtain ⟨rfl, rfl, rfl⟩ := hcs
    exact ⟨[], ⟨none, 0, rfl, Nat.le_refl _, fun h0 => absurd h0 (by simp)⟩, by simp⟩
  · simp [Value.cells] at hcs
    obtain ⟨rfl, rfl, rfl⟩ := hcs
    unfold maxLen at hm
    refine ⟨(List.range len0).map B, ?_, by simp; omega⟩
    rw [List.length_map, List.length_range]
    refine slr_of (fun i u hu => ?_) (by simp) hl
    rw [List.getElem?_map, List.getElem?_map] at hu
    by_cases hi : i < len0
    · rw [List.getElem?_range hi] at hu
      simp at hu
      rw [hcell i (by omega), hu]
    · rw [List.getElem?_eq_none (by simp; omega)] at hu
      cases hu
/-- The cells of such a slice, in whatever world behind. -/
theorem slr_at {w : World} {A : Option Addr} {n c : Nat} {xs : List Value} (h : SlR w (.slice A n c) n xs) (h0 : 0 < n) : ∃ g o, A = some ⟨g, o, none⟩ ∧ ∀ W, Below w.heap.size w W → ∀ i u, xs[i]? = some u → W.cell? ⟨g, o + i, none⟩ = some u := by
  obtain ⟨A', c', hv, _, hr⟩ := h
  cases hv
  obtain ⟨g, o, hA, hc⟩ := hr h0
  exact ⟨g, o, hA, fun W hb i u hi => (hb.cell (World.block_lt_of_cell? _ _ (hc i u hi))).trans (hc i u hi)⟩
end Go.Proofs.YtlibdhnlmekmhaaGreatDoor.NtArgs
end

/- A slice of ints, or of bools, that came in. -/
section
namespace Go.Proofs.YtlibdhnlmekmhaaGreatDoor.Frame
open Go.ChangeShapes Go.WideShapes Go.ChangeAt Go.RowKit Go.Lib Go.Shelf
open Go.Proofs.YtlibdhnlmekmhaaGreatDoor.Strs Go.Proofs.YtlibdhnlmekmhaaGreatDoor.Clone

set_option maxRecDepth 100000 in
/-- A slice of integers that came in reads as a list. -/
theorem ints_open {H : Type} {enc : TypeId × Value → H} {W : World} {base : Nat} {v : Value} {d : DataW H} {p : List MemPlace} (hv : Value.okWide Tryz.prog W .any base 50 v) (h : DataW.Trod enc Tryz.prog W 0 (fun _ => true) true 50 v d p) :
    ∃ l : List Int, SlR W v l.length (l.map (Value.int .i64)) ∧ l.length ≤ 9223372036854775807 := by
  obtain ⟨a0, len0, cap0, rfl⟩ := okWide_slice Tryz.underlying50 hv
  obtain ⟨fuel, hf⟩ := h
  rcases open_ints Tryz.underlying50 Tryz.underlying3 (by kernel_rfl) hf with ⟨hcs, _⟩ | ⟨x, l, c, zs, hcs, _, hl, hm, hz, _, hcell, _⟩
  · simp [Value.cells] at hcs
    obtain ⟨rfl, rfl, rfl⟩ := hcs
    exact ⟨[], ⟨none, 0, rfl, Nat.le_refl _, fun h0 => absurd h0 (by simp)⟩, by simp⟩
  · simp [Value.cells] at hcs
    obtain ⟨rfl, rfl, rfl⟩ := hcs
    have hzl : zs.length = cap0 := by simpa using hz
    have hlen : (zs.take len0).length = len0 := by rw [List.length_take]; omega
    unfold maxLen at hm
    refine ⟨zs.take len0, ⟨some x, cap0, by rw [hlen], by rw [hlen]; exact hl, fun h0 => ?_⟩, by rw [hlen]; omega⟩
    obtain ⟨b, off, rfl, hc⟩ := ints_at hcell (by rw [hlen] at h0; omega)
    refine ⟨b, off, rfl, fun j u hj => ?_⟩
    rw [List.getElem?_map, List.getElem?_take] at hj
    split at hj
    · rename_i hjl
      rw [hc j (by omega)]
      simp only [List.getElem?_eq_getElem (show j < zs.length by omega), Option.map_some, Option.some.injEq] at hj
      rw [← hj]
      simp [List.getD, List.getElem?_eq_getElem (show j < zs.length by omega)]
    · cases hj
end Go.Proofs.YtlibdhnlmekmhaaGreatDoor.Frame
end
