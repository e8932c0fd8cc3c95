/- Which method an interface value's call comes to, at the types of package heap. -/
import Derived.Test.YtpofmbigclonlaaDoorNums2
namespace Go.Proofs.YtpofmbigclonlaaDoor.Meth
open Go.RowKit

theorem wrapnil (t : TypeId) (a : Addr) (s : String) : Builtin.ssaWrapNilChk_ #[t] t #[.pointer (some a), strVal "", strVal s] = pure (.pointer (some a)) := rfl
/-- A method with a value receiver, called through a pointer. -/
theorem run_method_ptr {P : Program} {fuel : Nat} {t E : TypeId} {i : TypeInfo} {m : Method} {f : FuncId} {name : String} {a : Addr} {v : Value} {w : World}
    (hi : P.info? t = some i) (hm : i.methods.find? (·.name == name) = some m) (hp : m.path = #[]) (hf : m.func = some (f, false)) (ht : P.underlying t = some (.pointer E))
    (h : (loadVar E a).run P w = .ok v w) : (method (fuel + 1) t (.pointer (some a)) name).run P w = .ok (f, v) w := by
  simp [method, typeInfo, hi, hm, hp, hf, follow, receiverAt, Place.get, run_underlying ht, wrapnil, asAddr, h]
theorem of_find {P : Program} {t : TypeId} {name : String} {f : FuncId} (h : ((P.info? t).bind fun i => (i.methods.find? (·.name == name))).map (fun m => (m.path, m.func)) = some (#[], some (f, false))) :
    ∃ i m, P.info? t = some i ∧ i.methods.find? (·.name == name) = some m ∧ m.path = #[] ∧ m.func = some (f, false) := by
  obtain ⟨m, hm, he⟩ := Option.map_eq_some_iff.1 h
  obtain ⟨i, hi, hm⟩ := Option.bind_eq_some_iff.1 hm
  simp at he
  exact ⟨i, m, hi, hm, he.1, he.2⟩
theorem meth_len (hp k : Nat) (v : Value) (w : World) (h : w.cell? ⟨hp, k, none⟩ = some v) : (method 243 116 (.pointer (some ⟨hp, k, none⟩)) "Len").run Tryd.prog w = .ok (85, v) w := by
  obtain ⟨i, m, h1, h2, h3, h4⟩ := of_find (P := Tryd.prog) (t := 116) (name := "Len") (f := 85) (by kernel_rfl)
  exact run_method_ptr h1 h2 h3 h4 Tryd.underlying116 (by go_simp)
theorem meth_less (hp k : Nat) (v : Value) (w : World) (h : w.cell? ⟨hp, k, none⟩ = some v) : (method 243 116 (.pointer (some ⟨hp, k, none⟩)) "Less").run Tryd.prog w = .ok (86, v) w := by
  obtain ⟨i, m, h1, h2, h3, h4⟩ := of_find (P := Tryd.prog) (t := 116) (name := "Less") (f := 86) (by kernel_rfl)
  exact run_method_ptr h1 h2 h3 h4 Tryd.underlying116 (by go_simp)
theorem meth_swap (hp k : Nat) (v : Value) (w : World) (h : w.cell? ⟨hp, k, none⟩ = some v) : (method 243 116 (.pointer (some ⟨hp, k, none⟩)) "Swap").run Tryd.prog w = .ok (87, v) w := by
  obtain ⟨i, m, h1, h2, h3, h4⟩ := of_find (P := Tryd.prog) (t := 116) (name := "Swap") (f := 87) (by kernel_rfl)
  exact run_method_ptr h1 h2 h3 h4 Tryd.underlying116 (by go_simp)
theorem meth_push (a : Addr) (w : World) : (method 243 116 (.pointer (some a)) "Push").run Tryd.prog w = .ok (93, .pointer (some a)) w := by kernel_rfl
theorem meth_pop (a : Addr) (w : World) : (method 243 116 (.pointer (some a)) "Pop").run Tryd.prog w = .ok (92, .pointer (some a)) w := by kernel_rfl
theorem meth_cons (a : Addr) (w : World) : (method 243 69 (.pointer (some a)) "copyist/heap.size").run Tryd.prog w = .ok (88, .pointer (some a)) w := by kernel_rfl
theorem meth_text (a : Addr) (w : World) : (method 243 74 (.pointer (some a)) "copyist/heap.size").run Tryd.prog w = .ok (89, .pointer (some a)) w := by kernel_rfl
theorem meth_vector (a : Addr) (w : World) : (method 243 81 (.pointer (some a)) "copyist/heap.size").run Tryd.prog w = .ok (90, .pointer (some a)) w := by kernel_rfl
theorem meth_code (a : Addr) (w : World) : (method 243 94 (.pointer (some a)) "copyist/heap.size").run Tryd.prog w = .ok (91, .pointer (some a)) w := by kernel_rfl
end Go.Proofs.YtpofmbigclonlaaDoor.Meth
