/- The contracts of the objects' sizes. -/
import Derived.Test.YtcdlfgggmigcnaaDoorMeth
import Derived.Test.YtcdlfgggmigcnaaDoorQuick
namespace Go.Proofs.YtcdlfgggmigcnaaDoor.Size
open Go.RowKit
open Go.Proofs.YtcdlfgggmigcnaaDoor.Own Go.Proofs.YtcdlfgggmigcnaaDoor.Hp Go.Proofs.YtcdlfgggmigcnaaDoor.HeapOrd Go.Proofs.YtcdlfgggmigcnaaDoor.Rep Go.Proofs.YtcdlfgggmigcnaaDoor.Base Go.Proofs.YtcdlfgggmigcnaaDoor.Get Go.Proofs.YtcdlfgggmigcnaaDoor.Meth Go.Proofs.YtcdlfgggmigcnaaDoor.Quick

theorem size_cons (p : Value) (w : World) : Calls Tryd.prog 160 #[p] w fun e w' => e = .returned (.int .i64 0) ∧ w = w' := by
  go_enter Tryd.func160, Tryd.ntmps160
  go_wp2
  go_ret
  exact ⟨rfl, rfl⟩
theorem size_text (g : Nat) (x : Int) (w : World) (h : w.cell? ⟨g, 1, none⟩ = some (.int .i64 x)) : Calls Tryd.prog 161 #[ptr g] w fun e w' => e = .returned (.int .i64 x) ∧ w = w' := by
  go_enter Tryd.func161, Tryd.ntmps161
  go_wp2
  go_ret
  exact ⟨rfl, rfl⟩
theorem size_vector (g n c : Nat) (A : Option Addr) (w : World) (h : w.cell? ⟨g, 0, none⟩ = some (.slice A n c)) : Calls Tryd.prog 162 #[ptr g] w fun e w' => e = .returned (.int .i64 (n : Int)) ∧ w = w' := by
  go_enter Tryd.func162, Tryd.ntmps162
  go_wp2
  go_ret
  exact ⟨rfl, rfl⟩
theorem size_code (g n c n2 c2 : Nat) (A A2 : Option Addr) (w : World) (h : w.cell? ⟨g, 3, none⟩ = some (.slice A n c)) (h2 : w.cell? ⟨g, 4, none⟩ = some (.slice A2 n2 c2)) (b1 : n ≤ 65536) (b2 : n2 ≤ 65536) :
    Calls Tryd.prog 163 #[ptr g] w fun e w' => e = .returned (.int .i64 ((n : Int) + n2)) ∧ ∃ q, w' = w.drewN q := by
  go_enter Tryd.func163, Tryd.ntmps163
  go_wp2
  go_quiet (fail)
  go_wp2
  go_ret
  exact ⟨rfl, _, rfl⟩

/-- A quiet call in a region that draws its order. -/
theorem quietQ {P : Program} {f : FuncId} {args : Array Value} {w : World} {n : Nat} {v : Value}
    (h : Calls P f args (w.drewN n) fun e w' => e = .returned v ∧ ∃ q, w' = (w.drewN n).drewN q) : Calls P f args (w.drewN n) fun e w'' => e = .returned v ∧ ∃ m, w'' = w.drewN m :=
  h.mono fun _ _ ⟨he, q, hq⟩ => ⟨he, n + q, by rw [hq, World.drewN_drewN]⟩
theorem quietQ2 {P : Program} {f : FuncId} {args : Array Value} {w : World} {a n : Nat} {v : Value}
    (h : Calls P f args (w.drewN (a + n)) fun e w' => e = .returned v ∧ ∃ q, w' = (w.drewN (a + n)).drewN q) : Calls P f args (w.drewN (a + n)) fun e w'' => e = .returned v ∧ ∃ m, w'' = w.drewN (a + m) :=
  h.mono fun _ _ ⟨he, q, hq⟩ => ⟨he, n + q, by rw [hq, World.drewN_drewN, Nat.add_assoc]⟩
/-- A call that only draws, in every world that has only grown. -/
def Draws (W : World) (f : FuncId) (a : Array Value) (v : Value) : Prop := ∀ w, Below W.heap.size W w → Calls Tryd.prog f a w fun e w' => e = .returned v ∧ ∃ q, w' = w.drewN q
theorem Draws.out {W : World} {f : FuncId} {a : Array Value} {v : Value} (h : Draws W f a v) (w : World) (hb : Below W.heap.size W w) : Calls Tryd.prog f a w fun e w' => e = .returned v ∧ ∃ q, w' = w.drewN q := h w hb
theorem draws_same {W : World} {f : FuncId} {a : Array Value} {v : Value} (h : ∀ w, Below W.heap.size W w → Calls Tryd.prog f a w fun e w' => e = .returned v ∧ w = w') : Draws W f a v :=
  fun w hb => (h w hb).mono fun _ _ ⟨he, hw⟩ => ⟨he, 0, hw.symm⟩
theorem draws_many {w : World} {base hp lim : Nat} {ob : Obs} {lab : Nat → Option Lab} {P : Parts} (h : HeapIs w base hp lim ob lab P) : Draws w 25 #[ptr hp] (.int .i64 (manyTo ob lim)) := fun _ hb => many_any (h.below hb)
theorem draws_room {w : World} {base hp lim : Nat} {ob : Obs} {lab : Nat → Option Lab} {P : Parts} (h : HeapIs w base hp lim ob lab P) : Draws w 26 #[ptr hp] (.int .i64 (1048576 - (usedTo ob lim : Int))) := draws_same fun _ hb => room_any (h.below hb)
theorem Draws.quiet {W : World} {f : FuncId} {a : Array Value} {v : Value} (h : Draws W f a v) {w : World} {n : Nat} (hb : Below W.heap.size W (w.drewN n)) : Calls Tryd.prog f a (w.drewN n) fun e w'' => e = .returned v ∧ ∃ m, w'' = w.drewN m := quietQ (h _ hb)
theorem Draws.quiet2 {W : World} {f : FuncId} {a : Array Value} {v : Value} (h : Draws W f a v) {w : World} {c n : Nat} (hb : Below W.heap.size W (w.drewN (c + n))) : Calls Tryd.prog f a (w.drewN (c + n)) fun e w'' => e = .returned v ∧ ∃ m, w'' = w.drewN (c + m) := quietQ2 (h _ hb)
end Go.Proofs.YtcdlfgggmigcnaaDoor.Size
