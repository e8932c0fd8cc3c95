/- Words and slices of words that came in as arguments. -/
import Derived.Test.YtcdlfgggmigcnaaDoorClone
import Derived.Deep.SlicePairs
import Derived.Lib.SmallJoins
import Derived.ChangeArms
namespace Go.Proofs.YtcdlfgggmigcnaaDoor.WordArgs
open Go.ChangeShapes Go.WideShapes Go.ChangeAt Go.RowKit Go.Lib Go.Deep Go.Joins
open Go.Proofs.YtcdlfgggmigcnaaDoor.Hp Go.Proofs.YtcdlfgggmigcnaaDoor.Rep Go.Proofs.YtcdlfgggmigcnaaDoor.Clone

theorem word_fields : ∃ f0 f1 : Field, Tryd.prog.underlying 28 = some (.struct #[f0, f1]) ∧ Tryd.prog.underlying f0.type = some (.int .i64) ∧ Tryd.prog.underlying f1.type = some (.int .i64) ∧ f0.offset = 0 ∧ f1.offset = 1 ∧ Tryd.prog.cellsOf f0.type = 1 ∧ Tryd.prog.cellsOf f1.type = 1 ∧ oneCellFields Tryd.prog #[f0, f1] = true :=
  ⟨_, _, Tryd.underlying28, by kernel_rfl, by kernel_rfl, rfl, rfl, by kernel_rfl, by kernel_rfl, by kernel_rfl⟩
theorem word_cells : Tryd.prog.cellsOf 28 = 2 := by kernel_rfl

/-- The words of a row by their places. -/
theorem wcells_made (n : Nat) (f : Nat → Wd) (j : Nat) (u : Value) (h : (wcells ((List.range n).map f))[j]? = some u) : j / 2 < n ∧ u = if j % 2 = 0 then .int .i64 (f (j / 2)).1 else .int .i64 (f (j / 2)).2 := by
  induction n generalizing f j with
  | zero => simp [wcells] at h
  | succ n ih =>
    rw [List.range_succ_eq_map, List.map_cons, List.map_map] at h
    match j, h with
    | 0, h => simp [wcells] at h; subst h; exact ⟨by omega, rfl⟩
    | 1, h => simp [wcells] at h; subst h; exact ⟨by omega, rfl⟩
    | j + 2, h =>
      simp only [wcells, List.getElem?_cons_succ] at h
      obtain ⟨h1, h2⟩ := ih (f ∘ Nat.succ) j h
      refine ⟨by omega, ?_⟩
      rw [show (j + 2) / 2 = j / 2 + 1 by omega, show (j + 2) % 2 = j % 2 by omega, h2]
      rfl

def Fits (x : Wd) : Prop := (-9223372036854775808 ≤ x.1 ∧ x.1 ≤ 9223372036854775807) ∧ (-9223372036854775808 ≤ x.2 ∧ x.2 ≤ 9223372036854775807)
theorem wf_fits {n : Int} (h : (Lit.int .i64 n).wf = true) : -9223372036854775808 ≤ n ∧ n ≤ 9223372036854775807 := by
  have hmin : IntKind.i64.min = -9223372036854775808 := rfl
  simp [Lit.wf] at h
  omega
set_option maxRecDepth 100000 in
theorem word_open {H : Type} {enc : TypeId × Value → H} {W : World} {base : Nat} {v : Value} {d : DataW H} {p : List MemPlace} (hv : Value.okWide Tryd.prog W .any base 28 v) (h : DataW.Trod enc Tryd.prog W 0 (fun _ => true) true 28 v d p) :
    ∃ x : Wd, v = wd x ∧ Fits x := by
  obtain ⟨f0, f1, hs, u0, u1, o0, o1, c0, c1, hone⟩ := word_fields
  obtain ⟨w0, w1, y0, y1, n, rfl, _, _, t0, t1⟩ := open_agg2 hs hone word_cells hv h
  obtain ⟨n0, e0, _, q0⟩ := DataW.trod_int u0 t0
  obtain ⟨n1, e1, _, q1⟩ := DataW.trod_int u1 t1
  simp only [List.cons.injEq, and_true] at e0 e1
  exact ⟨(n0, n1), by rw [e0, e1], wf_fits q0, wf_fits q1⟩
set_option maxRecDepth 100000 in
theorem words_open {H : Type} {enc : TypeId × Value → H} {W : World} {base : Nat} {v : Value} {d : DataW H} {p : List MemPlace} (hv : Value.okWide Tryd.prog W .any base 36 v) (h : DataW.Trod enc Tryd.prog W 0 (fun _ => true) true 36 v d p) :
    ∃ l : List Wd, SlR W v l.length (wcells l) ∧ l.length ≤ 9223372036854775807 ∧ ∀ x ∈ l, Fits x := by
  obtain ⟨f0, f1, hs, u0, u1, o0, o1, c0, c1, _⟩ := word_fields
  obtain ⟨a0, len0, cap0, rfl⟩ := okWide_slice Tryd.underlying36 hv
  obtain ⟨fuel, hf⟩ := h
  rcases open_slice_pairs Tryd.underlying36 hs word_cells o0 o1 c0 c1 hf with ⟨hcs, _⟩ | ⟨a, len, cap, m, n, V0, V1, D0, D1, P0, P1, hcs, _, hl, hm, hmm, _, hc⟩
  · simp [Value.cells] at hcs
    obtain ⟨rfl, rfl, rfl⟩ := hcs
    exact ⟨[], ⟨none, 0, rfl, Nat.le_refl _, fun h0 => absurd h0 (by simp)⟩, by simp, fun x hx => by simp at hx⟩
  · simp [Value.cells] at hcs
    obtain ⟨rfl, rfl, rfl⟩ := hcs
    have hlm : len0 ≤ m := by rw [hmm]; split <;> omega
    have each : ∀ i, i < len0 → ∃ x : Wd, W.cell? (a.add (i * 2)) = some (.int .i64 x.1) ∧ W.cell? (a.add (i * 2 + 1)) = some (.int .i64 x.2) ∧ Fits x := by
      intro i hi
      obtain ⟨g0, g1, t0, t1⟩ := hc i (by omega)
      obtain ⟨n0, e0, _, q0⟩ := DataW.trod_int u0 t0
      obtain ⟨n1, e1, _, q1⟩ := DataW.trod_int u1 t1
      simp only [List.cons.injEq, and_true] at e0 e1
      exact ⟨(n0, n1), by rw [g0, e0], by rw [g1, e1], wf_fits q0, wf_fits q1⟩
    obtain ⟨f, hf'⟩ := choose_lt each
    unfold maxLen at hm
    refine ⟨(List.range len0).map f, ⟨some a, cap0, by simp, by simpa using hl, fun h0 => ?_⟩, by simp; omega, fun x hx => ?_⟩
    · simp at h0
      obtain ⟨b, off, spot⟩ := a
      have hspot : spot = none := by simpa [Addr.add] using World.cell?_spot (hf' 0 h0).1
      subst hspot
      refine ⟨b, off, rfl, fun j u hj => ?_⟩
      obtain ⟨hjl, hu⟩ := wcells_made len0 f j u hj
      obtain ⟨g0, g1, _⟩ := hf' (j / 2) hjl
      rw [Go.WideShapes.add_plain] at g0 g1
      by_cases hj2 : j % 2 = 0
      · rw [if_pos hj2] at hu
        rw [hu, ← g0]
        congr 2
        omega
      · rw [if_neg hj2] at hu
        rw [hu, ← g1]
        congr 2
        omega
    · obtain ⟨i, hi, rfl⟩ := List.mem_map.1 hx
      exact (hf' i (List.mem_range.1 hi)).2.2
end Go.Proofs.YtcdlfgggmigcnaaDoor.WordArgs
