/- A region that draws its order, whose calls may make memory. -/
import Derived.Test.YtcdlfgggmigcnaaDoorOwn
import Derived.BigGuardPart
import Derived.BigQuiet
import Derived.Deep.QuietTactic
namespace Go.Proofs.YtcdlfgggmigcnaaDoor.Nt
open Go.RowKit

/-- A world that has only grown since w0. -/
structure Grown (w0 : World) where
  w : World
  below : Below w0.heap.size w0 w
instance grownNonempty (w0 : World) : Nonempty (Grown w0) := ⟨⟨w0, Below.refl _ _⟩⟩
theorem wp_region_grown {P : Program} {id : Nat} {Q : Exit → Act → World → Prop} {a : Act} {w : World} {l : List Oper} (w0 : World) (hb : Below w0.heap.size w0 w) (hm : P.follows .mixedOrders = true) (hB : Region.lexB .any l.toArray = true)
    (h : wpQuiet P l.toArray (fun w' => ∃ x : Grown w0, w' = x.w) (fun a' => ∀ w', (∃ x : Grown w0, w' = x.w) → Q .normal a' w') l a) : (Code.region id l.toArray true).wp P Q a w :=
  wp_region_quiet (C := fun w' => ∃ x : Grown w0, w' = x.w) hm hB ⟨⟨{ w with drawn := w.drawn + 1 }, ⟨hb.os, hb.tape, hb.output, hb.size, hb.block⟩⟩, rfl⟩ (by simpa using h)
/-- A call in such a region. -/
theorem grown_call {P : Program} {f : FuncId} {args : Array Value} {w0 : World} {x : Grown w0} {v : Value} (h : ∀ w, Below w0.heap.size w0 w → Calls P f args w fun e w' => e = .returned v ∧ Below w.heap.size w w') :
    Calls P f args x.w fun e w'' => e = .returned v ∧ ∃ y : Grown w0, w'' = y.w :=
  (h x.w x.below).mono fun _ w' ⟨he, hb⟩ => ⟨he, ⟨w', x.below.trans (hb.mono x.below.size)⟩, rfl⟩
end Go.Proofs.YtcdlfgggmigcnaaDoor.Nt
