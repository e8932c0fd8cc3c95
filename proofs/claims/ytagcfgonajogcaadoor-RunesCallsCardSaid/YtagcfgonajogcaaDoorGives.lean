/- Contracts of callees behind a world that has only grown. -/
import Derived.Test.YtagcfgonajogcaaDoorLives
import Derived.Test.YtagcfgonajogcaaDoorCase
namespace Go.Proofs.YtagcfgonajogcaaDoor.Give
open Go.RowKit Go.Shelf Go.Lib
open Go.Proofs.YtagcfgonajogcaaDoor.Chars Go.Proofs.YtagcfgonajogcaaDoor.Strs

/-- A contract behind a world that has only grown. -/
def Gives (W : World) (f : FuncId) (a : Array Value) (v : Value) : Prop := ∀ w, Below W.heap.size W w → Calls Tryd.prog f a w fun e w' => e = .returned v ∧ Below W.heap.size W w'
theorem gives {W : World} {f : FuncId} {a : Array Value} {v : Value} (h : ∀ w, Calls Tryd.prog f a w fun e w' => e = .returned v ∧ Below w.heap.size w w') : Gives W f a v :=
  fun w hb => (h w).mono fun _ _ ⟨he, hb'⟩ => ⟨he, hb.trans (hb'.mono hb.size)⟩
theorem Gives.out {W : World} {f : FuncId} {a : Array Value} {v : Value} (h : Gives W f a v) (w : World) (hb : Below W.heap.size W w) : Calls Tryd.prog f a w fun e w' => e = .returned v ∧ Below W.heap.size W w' := h w hb
theorem is_gives (W : World) (c : Int) : Gives W 21 #[.int .i64 c] (.bool (isZ c)) := gives fun w => (is_any c w).mono fun _ _ ⟨he, hw⟩ => ⟨he, by subst hw; exact Below.refl _ _⟩
theorem lives_gives (W : World) (hT : Tabs W) : Gives W 10 #[] (.bool true) := fun w hb => (lives_any w (hT.below hb)).mono fun _ _ ⟨he, hb'⟩ => ⟨he, hb.trans (hb'.mono hb.size)⟩

theorem gives_same {W : World} {f : FuncId} {a : Array Value} {v : Value} (h : ∀ w, Calls Tryd.prog f a w fun e w' => e = .returned v ∧ w = w') : Gives W f a v :=
  gives fun w => (h w).mono fun _ _ ⟨he, hw⟩ => ⟨he, by subst hw; exact Below.refl _ _⟩
end Go.Proofs.YtagcfgonajogcaaDoor.Give
