/- The contracts of the functions of package heap that only read: valid, kind, the sizes; what a type assertion on an object gives. -/
import Derived.Test.YtcdlfgggmigcnaaDoorRep
import Derived.Test.YtcdlfgggmigcnaaDoorRows
import Derived.WalkSpells
import Derived.WalkLawsBesides
import Derived.RegionTactic
import Derived.BigQuiet
import Derived.Deep.QuietTactic
import Derived.BigGuardPart
import Derived.LoopTactic
namespace Go.Proofs.YtcdlfgggmigcnaaDoor.Base
open Go.RowKit
open Go.Proofs.YtcdlfgggmigcnaaDoor.Own Go.Proofs.YtcdlfgggmigcnaaDoor.Hp Go.Proofs.YtcdlfgggmigcnaaDoor.HeapOrd Go.Proofs.YtcdlfgggmigcnaaDoor.Rep

theorem valid_nil (w : World) : Calls Tryd.prog 66 #[.pointer none] w fun e w' => e = .returned (.bool false) ∧ w = w' := by
  go_enter Tryd.func66, Tryd.ntmps66
  go_wp2
  go_ret
  exact ⟨rfl, rfl⟩
theorem valid_core (hp n : Nat) (w : World) (hc : w.cell? ⟨hp, 0, none⟩ = some (.int .i64 (n : Int))) (h1 : 1 ≤ n) :
    Calls Tryd.prog 66 #[.pointer (some ⟨hp, 0, none⟩)] w fun e w' => e = .returned (.bool true) ∧ w = w' := by
  have hd : decide (0 < n) = true := decide_eq_true (by omega)
  go_enter Tryd.func66, Tryd.ntmps66
  go_wp2
  go_ret
  exact ⟨rfl, rfl⟩

theorem as_nil_cons (w : World) : (Instr.typeAssert .nilIface 117 108 true).run Tryd.prog w = .ok (.tuple #[.pointer none, .bool false]) w := by kernel_rfl
theorem as_cons_cons (v : Value) (w : World) : (Instr.typeAssert (.iface 108 v) 117 108 true).run Tryd.prog w = .ok (.tuple #[v, .bool true]) w := by kernel_rfl
theorem as_text_cons (v : Value) (w : World) : (Instr.typeAssert (.iface 112 v) 117 108 true).run Tryd.prog w = .ok (.tuple #[.pointer none, .bool false]) w := by kernel_rfl
theorem as_vector_cons (v : Value) (w : World) : (Instr.typeAssert (.iface 119 v) 117 108 true).run Tryd.prog w = .ok (.tuple #[.pointer none, .bool false]) w := by kernel_rfl
theorem as_code_cons (v : Value) (w : World) : (Instr.typeAssert (.iface 132 v) 117 108 true).run Tryd.prog w = .ok (.tuple #[.pointer none, .bool false]) w := by kernel_rfl
theorem as_nil_text (w : World) : (Instr.typeAssert .nilIface 117 112 true).run Tryd.prog w = .ok (.tuple #[.pointer none, .bool false]) w := by kernel_rfl
theorem as_cons_text (v : Value) (w : World) : (Instr.typeAssert (.iface 108 v) 117 112 true).run Tryd.prog w = .ok (.tuple #[.pointer none, .bool false]) w := by kernel_rfl
theorem as_text_text (v : Value) (w : World) : (Instr.typeAssert (.iface 112 v) 117 112 true).run Tryd.prog w = .ok (.tuple #[v, .bool true]) w := by kernel_rfl
theorem as_vector_text (v : Value) (w : World) : (Instr.typeAssert (.iface 119 v) 117 112 true).run Tryd.prog w = .ok (.tuple #[.pointer none, .bool false]) w := by kernel_rfl
theorem as_code_text (v : Value) (w : World) : (Instr.typeAssert (.iface 132 v) 117 112 true).run Tryd.prog w = .ok (.tuple #[.pointer none, .bool false]) w := by kernel_rfl
theorem as_nil_vector (w : World) : (Instr.typeAssert .nilIface 117 119 true).run Tryd.prog w = .ok (.tuple #[.pointer none, .bool false]) w := by kernel_rfl
theorem as_cons_vector (v : Value) (w : World) : (Instr.typeAssert (.iface 108 v) 117 119 true).run Tryd.prog w = .ok (.tuple #[.pointer none, .bool false]) w := by kernel_rfl
theorem as_text_vector (v : Value) (w : World) : (Instr.typeAssert (.iface 112 v) 117 119 true).run Tryd.prog w = .ok (.tuple #[.pointer none, .bool false]) w := by kernel_rfl
theorem as_vector_vector (v : Value) (w : World) : (Instr.typeAssert (.iface 119 v) 117 119 true).run Tryd.prog w = .ok (.tuple #[v, .bool true]) w := by kernel_rfl
theorem as_code_vector (v : Value) (w : World) : (Instr.typeAssert (.iface 132 v) 117 119 true).run Tryd.prog w = .ok (.tuple #[.pointer none, .bool false]) w := by kernel_rfl
theorem as_nil_code (w : World) : (Instr.typeAssert .nilIface 117 132 true).run Tryd.prog w = .ok (.tuple #[.pointer none, .bool false]) w := by kernel_rfl
theorem as_cons_code (v : Value) (w : World) : (Instr.typeAssert (.iface 108 v) 117 132 true).run Tryd.prog w = .ok (.tuple #[.pointer none, .bool false]) w := by kernel_rfl
theorem as_text_code (v : Value) (w : World) : (Instr.typeAssert (.iface 112 v) 117 132 true).run Tryd.prog w = .ok (.tuple #[.pointer none, .bool false]) w := by kernel_rfl
theorem as_vector_code (v : Value) (w : World) : (Instr.typeAssert (.iface 119 v) 117 132 true).run Tryd.prog w = .ok (.tuple #[.pointer none, .bool false]) w := by kernel_rfl
theorem as_code_code (v : Value) (w : World) : (Instr.typeAssert (.iface 132 v) 117 132 true).run Tryd.prog w = .ok (.tuple #[v, .bool true]) w := by kernel_rfl

theorem kind_nil (w : World) : Calls Tryd.prog 105 #[.nilIface] w fun e w' => e = .returned (.int .i64 (-1)) ∧ w = w' := by
  have a1 := as_nil_cons
  have a2 := as_nil_text
  have a3 := as_nil_vector
  have a4 := as_nil_code
  go_enter Tryd.func105, Tryd.ntmps105
  go_wp2
  go_ret
  exact ⟨rfl, rfl⟩
theorem kind_cons (v : Value) (w : World) : Calls Tryd.prog 105 #[.iface 108 v] w fun e w' => e = .returned (.int .i64 2) ∧ w = w' := by
  have a0 := as_cons_cons
  go_enter Tryd.func105, Tryd.ntmps105
  go_wp2
  go_ret
  exact ⟨rfl, rfl⟩
theorem kind_text (v : Value) (w : World) : Calls Tryd.prog 105 #[.iface 112 v] w fun e w' => e = .returned (.int .i64 3) ∧ w = w' := by
  have a0 := as_text_cons
  have a1 := as_text_text
  go_enter Tryd.func105, Tryd.ntmps105
  go_wp2
  go_ret
  exact ⟨rfl, rfl⟩
theorem kind_vector (v : Value) (w : World) : Calls Tryd.prog 105 #[.iface 119 v] w fun e w' => e = .returned (.int .i64 4) ∧ w = w' := by
  have a0 := as_vector_cons
  have a1 := as_vector_text
  have a2 := as_vector_vector
  go_enter Tryd.func105, Tryd.ntmps105
  go_wp2
  go_ret
  exact ⟨rfl, rfl⟩
theorem kind_code (v : Value) (w : World) : Calls Tryd.prog 105 #[.iface 132 v] w fun e w' => e = .returned (.int .i64 6) ∧ w = w' := by
  have a0 := as_code_cons
  have a1 := as_code_text
  have a2 := as_code_vector
  have a3 := as_code_code
  go_enter Tryd.func105, Tryd.ntmps105
  go_wp2
  go_ret
  exact ⟨rfl, rfl⟩

def kindO : Option Ob → Int
  | none => -1
  | some o => o.kind
theorem kind_any (lab : Nat → Option Lab) (n : Nat) (v : Value) (o : Option Ob) (w0 w : World) (h : ObAt w0 lab n v o) :
    Calls Tryd.prog 105 #[v] w fun e w' => e = .returned (.int .i64 (kindO o)) ∧ w = w' := by
  match o with
  | none => obtain rfl := h; exact kind_nil w
  | some (.cons a d) => obtain ⟨g, rfl, _⟩ := h; exact kind_cons _ w
  | some (.text s k) => obtain ⟨g, rfl, _⟩ := h; exact kind_text _ w
  | some (.vec l) => obtain ⟨g, r, rfl, _⟩ := h; exact kind_vector _ w
  | some (.code p q z b l) => obtain ⟨g, rb, rl, rfl, _⟩ := h; exact kind_code _ w
end Go.Proofs.YtcdlfgggmigcnaaDoor.Base
