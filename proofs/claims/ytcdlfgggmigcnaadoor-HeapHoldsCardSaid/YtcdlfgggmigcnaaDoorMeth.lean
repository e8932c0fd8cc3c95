/- Which method an interface value's call comes to, at the types of package heap. -/
import Derived.Test.YtcdlfgggmigcnaaDoorNums2
namespace Go.Proofs.YtcdlfgggmigcnaaDoor.Meth
open Go.RowKit

theorem wrapnil (t : TypeId) (a : Addr) (s : String) : Builtin.ssaWrapNilChk_ #[t] t #[.pointer (some a), strVal "", strVal s] = pure (.pointer (some a)) := rfl
/-- A method with a value receiver, called through a pointer. -/
theorem run_method_ptr {P : Program} {fuel : Nat} {t E : TypeId} {i : TypeInfo} {m : Method} {f : FuncId} {name : String} {a : Addr} {v : Value} {w : World}
    (hi : P.info? t = some i) (hm : i.methods.find? (·.name == name) = some m) (hp : m.path = #[]) (hf : m.func = some (f, false)) (ht : P.underlying t = some (.pointer E))
    (h : (loadVar E a).run P w = .ok v w) : (method (fuel + 1) t (.pointer (some a)) name).run P w = .ok (f, v) w := by
  simp [method, typeInfo, hi, hm, hp, hf, follow, receiverAt, Place.get, run_underlying ht, wrapnil, asAddr, h]
theorem of_find {P : Program} {t : TypeId} {name : String} {f : FuncId} (h : ((P.info? t).bind fun i => (i.methods.find? (·.name == name))).map (fun m => (m.path, m.func)) = some (#[], some (f, false))) :
    ∃ i m, P.info? t = some i ∧ i.methods.find? (·.name == name) = some m ∧ m.path = #[] ∧ m.func = some (f, false) := by
  obtain ⟨m, hm, he⟩ := Option.map_eq_some_iff.1 h
  obtain ⟨i, hi, hm⟩ := Option.bind_eq_some_iff.1 hm
  simp at he
  exact ⟨i, m, hi, hm, he.1, he.2⟩
theorem meth_len (hp k : Nat) (v : Value) (w : World) (h : w.cell? ⟨hp, k, none⟩ = some v) : (method 315 185 (.pointer (some ⟨hp, k, none⟩)) "Len").run Tryd.prog w = .ok (157, v) w := by
  obtain ⟨i, m, h1, h2, h3, h4⟩ := of_find (P := Tryd.prog) (t := 185) (name := "Len") (f := 157) (by kernel_rfl)
  exact run_method_ptr h1 h2 h3 h4 Tryd.underlying185 (by go_simp)
theorem meth_less (hp k : Nat) (v : Value) (w : World) (h : w.cell? ⟨hp, k, none⟩ = some v) : (method 315 185 (.pointer (some ⟨hp, k, none⟩)) "Less").run Tryd.prog w = .ok (158, v) w := by
  obtain ⟨i, m, h1, h2, h3, h4⟩ := of_find (P := Tryd.prog) (t := 185) (name := "Less") (f := 158) (by kernel_rfl)
  exact run_method_ptr h1 h2 h3 h4 Tryd.underlying185 (by go_simp)
theorem meth_swap (hp k : Nat) (v : Value) (w : World) (h : w.cell? ⟨hp, k, none⟩ = some v) : (method 315 185 (.pointer (some ⟨hp, k, none⟩)) "Swap").run Tryd.prog w = .ok (159, v) w := by
  obtain ⟨i, m, h1, h2, h3, h4⟩ := of_find (P := Tryd.prog) (t := 185) (name := "Swap") (f := 159) (by kernel_rfl)
  exact run_method_ptr h1 h2 h3 h4 Tryd.underlying185 (by go_simp)
theorem meth_push (a : Addr) (w : World) : (method 315 185 (.pointer (some a)) "Push").run Tryd.prog w = .ok (165, .pointer (some a)) w := by kernel_rfl
theorem meth_pop (a : Addr) (w : World) : (method 315 185 (.pointer (some a)) "Pop").run Tryd.prog w = .ok (164, .pointer (some a)) w := by kernel_rfl
theorem meth_cons (a : Addr) (w : World) : (method 315 108 (.pointer (some a)) "copyist/heap.size").run Tryd.prog w = .ok (160, .pointer (some a)) w := by kernel_rfl
theorem meth_text (a : Addr) (w : World) : (method 315 112 (.pointer (some a)) "copyist/heap.size").run Tryd.prog w = .ok (161, .pointer (some a)) w := by kernel_rfl
theorem meth_vector (a : Addr) (w : World) : (method 315 119 (.pointer (some a)) "copyist/heap.size").run Tryd.prog w = .ok (162, .pointer (some a)) w := by kernel_rfl
theorem meth_code (a : Addr) (w : World) : (method 315 132 (.pointer (some a)) "copyist/heap.size").run Tryd.prog w = .ok (163, .pointer (some a)) w := by kernel_rfl
end Go.Proofs.YtcdlfgggmigcnaaDoor.Meth
