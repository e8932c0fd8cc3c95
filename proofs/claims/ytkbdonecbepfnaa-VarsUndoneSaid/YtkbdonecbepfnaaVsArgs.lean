/- Ints and words that came in as arguments. -/
import Derived.Test.YtkbdonecbepfnaaVsKit
import Derived.Deep.SlicePairs
import Derived.Lib.SmallJoins
import Derived.ChangeArms
import Derived.OpenShut
namespace Go.Proofs.Ytkbdonecbepfnaa.Vs
open Go.ChangeShapes Go.WideShapes Go.ChangeAt Go.RowKit Go.Lib Go.Deep Go.Joins

theorem wf_of {x : Int} (h : (Lit.int .i64 x).wf = true) : Wf x := by
  have hmin : IntKind.i64.min = -9223372036854775808 := rfl
  simp [Lit.wf] at h
  unfold Wf
  omega
theorem word_fields : ∃ f0 f1 : Field, Try.prog.underlying 29 = some (.struct #[f0, f1]) ∧ Try.prog.underlying f0.type = some (.int .i64) ∧ Try.prog.underlying f1.type = some (.int .i64) ∧ f0.offset = 0 ∧ f1.offset = 1 ∧ Try.prog.cellsOf f0.type = 1 ∧ Try.prog.cellsOf f1.type = 1 ∧ oneCellFields Try.prog #[f0, f1] = true :=
  ⟨_, _, Try.underlying29, by kernel_rfl, by kernel_rfl, rfl, rfl, by kernel_rfl, by kernel_rfl, by kernel_rfl⟩
theorem word_cells : Try.prog.cellsOf 29 = 2 := by kernel_rfl
def Fits (x : Wd) : Prop := Wf x.1 ∧ Wf x.2
set_option maxRecDepth 100000 in
theorem word_open {H : Type} {enc : TypeId × Value → H} {W : World} {base : Nat} {v : Value} {d : DataW H} {p : List MemPlace} (hv : Value.okWide Try.prog W .any base 29 v) (h : DataW.Trod enc Try.prog W 0 (fun _ => true) true 29 v d p) :
    ∃ x : Wd, v = wdv x ∧ Fits x := by
  obtain ⟨f0, f1, hs, u0, u1, o0, o1, c0, c1, hone⟩ := word_fields
  obtain ⟨w0, w1, y0, y1, n, rfl, _, _, t0, t1⟩ := open_agg2 hs hone word_cells hv h
  obtain ⟨n0, e0, _, q0⟩ := DataW.trod_int u0 t0
  obtain ⟨n1, e1, _, q1⟩ := DataW.trod_int u1 t1
  simp only [List.cons.injEq, and_true] at e0 e1
  exact ⟨(n0, n1), by rw [e0, e1], wf_of q0, wf_of q1⟩
end Go.Proofs.Ytkbdonecbepfnaa.Vs
