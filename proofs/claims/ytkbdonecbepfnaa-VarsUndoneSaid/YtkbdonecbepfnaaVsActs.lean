/- Slices of acts that came in as arguments. -/
import Derived.Test.YtkbdonecbepfnaaVsArgs
import Derived.Deep.Slices
namespace Go.Proofs.Ytkbdonecbepfnaa.Vs
open Go.ChangeShapes Go.WideShapes Go.ChangeAt Go.RowKit Go.Lib Go.Deep Go.Joins

/-- An act: its kind, its variable, its scope, its word. -/
structure Ac where
  kd : Int
  n : Int
  k : Int
  x : Wd
instance : Inhabited Ac := ⟨⟨0, 0, 0, (0, 0)⟩⟩
def FitsA (a : Ac) : Prop := Wf a.kd ∧ Wf a.n ∧ Wf a.k ∧ Fits a.x
/-- An act lies at an address. -/
def ActAt (W : World) (g o : Nat) (a : Ac) : Prop := W.cell? ⟨g, o, none⟩ = some (.int .i64 a.kd) ∧ W.cell? ⟨g, o + 1, none⟩ = some (.int .i64 a.n) ∧ W.cell? ⟨g, o + 2, none⟩ = some (.int .i64 a.k) ∧ W.cell? ⟨g, o + 3, none⟩ = some (.int .i64 a.x.1) ∧ W.cell? ⟨g, o + 4, none⟩ = some (.int .i64 a.x.2)
/-- A slice of acts that is read. -/
def ActsR (W : World) (v : Value) (l : List Ac) : Prop := ∃ A cap, v = .slice A l.length cap ∧ (0 < l.length → ∃ g off, A = some ⟨g, off, none⟩ ∧ ∀ (i : Nat) (a : Ac), l[i]? = some a → ActAt W g (off + i * 5) a)
theorem act_fields : ∃ f0 f1 f2 f3 : Field, Try.prog.underlying 31 = some (.struct #[f0, f1, f2, f3]) ∧ Try.prog.underlying f0.type = some (.int .i64) ∧ Try.prog.underlying f1.type = some (.int .i64) ∧ Try.prog.underlying f2.type = some (.int .i64) ∧ f3.type = 29 ∧
    f0.offset = 0 ∧ f1.offset = 1 ∧ f2.offset = 2 ∧ f3.offset = 3 ∧ Try.prog.cellsOf f0.type = 1 ∧ Try.prog.cellsOf f1.type = 1 ∧ Try.prog.cellsOf f2.type = 1 :=
  ⟨_, _, _, _, Try.underlying31, by kernel_rfl, by kernel_rfl, by kernel_rfl, rfl, rfl, rfl, rfl, rfl, by kernel_rfl, by kernel_rfl, by kernel_rfl⟩
theorem act_cells : Try.prog.cellsOf 31 = 5 := by kernel_rfl
theorem list5 {α : Type} {l : List α} (h : l.length = 5) : ∃ a b c d e, l = [a, b, c, d, e] := by
  match l, h with
  | [a, b, c, d, e], _ => exact ⟨a, b, c, d, e, rfl⟩
set_option maxRecDepth 100000 in
theorem act_one {H : Type} {enc : TypeId × Value → H} {W : World} {base fuel : Nat} {spare : Nat → Bool} {held : Bool} {cs : List Value} {y : DataW H × List MemPlace} (h : DataW.trod enc Try.prog W base spare held fuel 31 cs = some y) :
    ∃ a : Ac, cs = [.int .i64 a.kd, .int .i64 a.n, .int .i64 a.k, .int .i64 a.x.1, .int .i64 a.x.2] ∧ FitsA a := by
  obtain ⟨f0, f1, f2, f3, hs, u0, u1, u2, t3, o0, o1, o2, o3, c0, c1, c2⟩ := act_fields
  obtain ⟨y0, y1, y2, y3, n, _, hl, h0, h1, h2, h3⟩ := trod_struct4 hs h
  rw [act_cells] at hl
  obtain ⟨v0, v1, v2, v3, v4, rfl⟩ := list5 hl
  obtain ⟨g0, g1, hws, w0, w1, p0, p1, q0, q1, _⟩ := word_fields
  rw [t3] at h3
  obtain ⟨z0, z1, m, _, _, k0, k1⟩ := trod_struct2 hws h3
  rw [o0, c0] at h0
  rw [o1, c1] at h1
  rw [o2, c2] at h2
  rw [o3, word_cells, p0, q0] at k0
  rw [o3, word_cells, p1, q1] at k1
  simp only [List.drop_zero, List.drop_succ_cons, List.take_succ_cons, List.take_zero] at h0 h1 h2 k0 k1
  obtain ⟨n0, e0, _, r0⟩ := DataW.trod_int u0 h0
  obtain ⟨n1, e1, _, r1⟩ := DataW.trod_int u1 h1
  obtain ⟨n2, e2, _, r2⟩ := DataW.trod_int u2 h2
  obtain ⟨n3, e3, _, r3⟩ := DataW.trod_int w0 k0
  obtain ⟨n4, e4, _, r4⟩ := DataW.trod_int w1 k1
  simp only [List.cons.injEq, and_true] at e0 e1 e2 e3 e4
  exact ⟨⟨n0, n1, n2, (n3, n4)⟩, by rw [e0, e1, e2, e3, e4], wf_of r0, wf_of r1, wf_of r2, wf_of r3, wf_of r4⟩
set_option maxRecDepth 100000 in
theorem acts_open {H : Type} {enc : TypeId × Value → H} {W : World} {base : Nat} {v : Value} {d : DataW H} {p : List MemPlace} (hv : Value.okWide Try.prog W .any base 22 v) (h : DataW.Trod enc Try.prog W 0 (fun _ => true) true 22 v d p) :
    ∃ l : List Ac, ActsR W v l ∧ l.length ≤ 9223372036854775807 ∧ ∀ a ∈ l, FitsA a := by
  obtain ⟨a0, len0, cap0, rfl⟩ := okWide_slice Try.underlying22 hv
  obtain ⟨fuel, hf⟩ := h
  rcases open_slice Try.underlying22 hf with ⟨hcs, _⟩ | ⟨a, len, cap, m, n, D, Pl, hcs, _, hl, hm, hmm, _, hc⟩
  · simp [Value.cells] at hcs
    obtain ⟨rfl, rfl, rfl⟩ := hcs
    exact ⟨[], ⟨none, 0, rfl, fun h0 => absurd h0 (by simp)⟩, by simp, fun x hx => by simp at hx⟩
  · simp [Value.cells] at hcs
    obtain ⟨rfl, rfl, rfl⟩ := hcs
    have hlm : len0 ≤ m := by rw [hmm]; split <;> omega
    rw [act_cells] at hc
    have each : ∀ i, i < len0 → ∃ c : Ac, (W.cell? (a.add (i * 5)) = some (.int .i64 c.kd) ∧ ∀ j, j < 5 → W.cell? ((a.add (i * 5)).add j) = [Value.int .i64 c.kd, .int .i64 c.n, .int .i64 c.k, .int .i64 c.x.1, .int .i64 c.x.2][j]?) ∧ FitsA c := by
      intro i hi
      obtain ⟨cs, hcs, ht⟩ := hc i (by omega)
      obtain ⟨c, rfl, hfit⟩ := act_one ht
      obtain ⟨_, _, hce⟩ := World.cells?_some hcs
      have h0 := hce 0 (by omega)
      refine ⟨c, ⟨?_, hce⟩, hfit⟩
      simpa [Addr.add] using h0
    obtain ⟨f, hf'⟩ := choose_lt each
    unfold maxLen at hm
    refine ⟨(List.range len0).map f, ⟨some a, cap0, by simp, fun h0 => ?_⟩, by simp; omega, fun x hx => ?_⟩
    · simp at h0
      obtain ⟨b, off, spot⟩ := a
      have hspot : spot = none := by simpa [Addr.add] using World.cell?_spot (hf' 0 h0).1.1
      subst hspot
      refine ⟨b, off, rfl, fun i c hi => ?_⟩
      have hil : i < len0 := by
        have := (List.getElem?_eq_some_iff.1 hi).1
        simpa using this
      have hc' : c = f i := by
        rw [List.getElem?_map, List.getElem?_range hil] at hi
        simpa using hi.symm
      subst hc'
      have hj := (hf' i hil).1.2
      have h1 := hj 0 (by omega)
      have h2 := hj 1 (by omega)
      have h3 := hj 2 (by omega)
      have h4 := hj 3 (by omega)
      have h5 := hj 4 (by omega)
      simp only [Go.WideShapes.add_plain, Nat.add_zero, List.getElem?_cons_zero, List.getElem?_cons_succ] at h1 h2 h3 h4 h5
      exact ⟨h1, h2, h3, h4, h5⟩
    · obtain ⟨i, hi, rfl⟩ := List.mem_map.1 hx
      exact (hf' i (List.mem_range.1 hi)).2
theorem ActsR.below {W w' : World} {v : Value} {l : List Ac} (h : ActsR W v l) (hb : Below W.heap.size W w') : ActsR w' v l := by
  obtain ⟨A, cap, hv, hr⟩ := h
  refine ⟨A, cap, hv, fun h0 => ?_⟩
  obtain ⟨g, off, hA, hc⟩ := hr h0
  refine ⟨g, off, hA, fun i a hi => ?_⟩
  obtain ⟨h1, h2, h3, h4, h5⟩ := hc i a hi
  have hk : ∀ {o : Nat} {u : Value}, W.cell? ⟨g, o, none⟩ = some u → w'.cell? ⟨g, o, none⟩ = some u := fun hu => (hb.cell (World.block_lt_of_cell? _ _ hu)).trans hu
  exact ⟨hk h1, hk h2, hk h3, hk h4, hk h5⟩
end Go.Proofs.Ytkbdonecbepfnaa.Vs
