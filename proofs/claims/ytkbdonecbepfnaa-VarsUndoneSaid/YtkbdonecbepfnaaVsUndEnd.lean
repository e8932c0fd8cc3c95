/- Variables that look the same: the end of VarsUndone, plainly. -/
import Derived.Test.YtkbdonecbepfnaaVsUndMath
namespace Go.Proofs.Ytkbdonecbepfnaa.Vs
open Go.RowKit
open Go.Proofs.Ytkbdonecbepfnaa.Own

/-- The same contents, bindings, local variables and scope. -/
structure Alike (s t : Vs) : Prop where
  cont : cont s = cont t
  binds : s.binds = t.binds
  locs : ∀ n k, isLocalB s n k = isLocalB t n k
  scope : s.scope = t.scope
theorem Alike.vals {s t : Vs} (h : Alike s t) : valsC s ++ recs s.binds = valsC t ++ recs t.binds := by
  rw [h.binds, valsC_congr (s := s) (t := t) fun k n _ => by rw [h.cont]]
theorem Alike.get {s t : Vs} (h : Alike s t) (n : Int) : getO s n = getO t n := by
  have hh : homeO s n = homeO t n := by
    unfold homeO
    rw [h.locs, h.scope]
  unfold getO
  rw [hh]
  exact congrFun (congrFun h.cont _) _
theorem Alike.depth {s t : Vs} (h : Alike s t) : s.binds.length = t.binds.length := by rw [h.binds]
theorem Alike.of_cells {s t : Vs} (h1 : s.cells = t.cells) (h2 : s.binds = t.binds) (h3 : s.scope = t.scope) : Alike s t :=
  ⟨by unfold Vs.cont; rw [h1], h2, fun n k => by unfold isLocalB; rw [h1], h3⟩
theorem Alike.symm {s t : Vs} (h : Alike s t) : Alike t s := ⟨h.cont.symm, h.binds.symm, fun n k => (h.locs n k).symm, h.scope.symm⟩
theorem Alike.trans {s t u : Vs} (h : Alike s t) (k : Alike t u) : Alike s u := ⟨h.cont.trans k.cont, h.binds.trans k.binds, fun n j => (h.locs n j).trans (k.locs n j), h.scope.trans k.scope⟩
/-- Behind Unbind and SetScope. -/
theorem Und.alike {s0 s : Vs} {B : List Bd} {bound : List (Int × Int)} (h : Und s0 s B bound) (hs : 0 ≤ s0.scope ∧ s0.scope ≤ 65536) : (setScopeO (unbindO s s0.binds.length).2 s0.scope).1 = 0 ∧ Alike (setScopeO (unbindO s s0.binds.length).2 s0.scope).2 s0 := by
  obtain ⟨_, h1, h2, h3⟩ := h.done
  unfold setScopeO
  rw [if_pos hs]
  exact ⟨rfl, h1, h2, h3, rfl⟩
end Go.Proofs.Ytkbdonecbepfnaa.Vs
