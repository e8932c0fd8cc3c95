/- The contracts of (*Heap).find. -/
import Derived.Test.YtcdlfgggmigcnaaDoorBase
namespace Go.Proofs.YtcdlfgggmigcnaaDoor.Find
open Go.RowKit
open Go.Proofs.YtcdlfgggmigcnaaDoor.Own Go.Proofs.YtcdlfgggmigcnaaDoor.Hp Go.Proofs.YtcdlfgggmigcnaaDoor.HeapOrd Go.Proofs.YtcdlfgggmigcnaaDoor.Rep Go.Proofs.YtcdlfgggmigcnaaDoor.Base

set_option maxHeartbeats 1000000 in
theorem find_less (hp : Nat) (k n : Int) (w : World) (h : n < 0) :
    Calls Tryd.prog 81 #[.pointer (some ⟨hp, 0, none⟩), wd (k, n)] w fun e w' => e = .returned .nilIface ∧ Below w.heap.size w w' := by
  have hd : decide (n < 0) = true := decide_eq_true h
  go_enter Tryd.func81, Tryd.ntmps81
  go_wp2
  go_quiet (fail)
  go_wp2
  go_ret
  exact ⟨rfl, below_drewN ((Below.refl _ _).alloc (Nat.le_refl _) _) _⟩
set_option maxHeartbeats 1000000 in
theorem find_more (hp : Nat) (k n : Int) (A : Option Addr) (m cap : Nat) (w : World) (hc : w.cell? ⟨hp, 1, none⟩ = some (.slice A m cap)) (h0 : 0 ≤ n) (h : (m : Int) ≤ n) :
    Calls Tryd.prog 81 #[.pointer (some ⟨hp, 0, none⟩), wd (k, n)] w fun e w' => e = .returned .nilIface ∧ Below w.heap.size w w' := by
  have hc1 := more hc
  have hd : decide (n < 0) = false := decide_eq_false (by omega)
  go_enter Tryd.func81, Tryd.ntmps81
  go_wp2
  go_quiet (fail)
  go_wp2
  go_ret
  exact ⟨rfl, below_drewN ((Below.refl _ _).alloc (Nat.le_refl _) _) _⟩

set_option maxHeartbeats 1000000 in
/-- The object at a number that is in reach. -/
theorem find_in (hp g i : Nat) (k c : Int) (m cap : Nat) (v : Value) (w : World) (hc : w.cell? ⟨hp, 1, none⟩ = some (.slice (some ⟨g, 0, none⟩) m cap)) (hv : w.cell? ⟨g, i, none⟩ = some v) (h : i < m)
    (K : ∀ w, Calls Tryd.prog 105 #[v] w fun e w' => e = .returned (.int .i64 c) ∧ w = w') (r : Value) (hr : Hid (r = if c = k then v else .nilIface)) :
    Calls Tryd.prog 81 #[.pointer (some ⟨hp, 0, none⟩), wd (k, (i : Int))] w fun e w' => e = .returned r ∧ Below w.heap.size w w' := by
  have hc1 := more hc
  have hv1 := more hv
  have hd : decide ((i : Int) < 0) = false := decide_eq_false (by omega)
  have hd2 : decide (m ≤ i) = false := decide_eq_false (by omega)
  have HK := Lib.hid K
  clear K
  by_cases hck : c = k
  · subst hck
    obtain rfl : r = v := by rw [hr.out, if_pos rfl]
    clear hr
    go_enter Tryd.func81, Tryd.ntmps81
    go_wp2
    go_quiet (fail)
    go_wp2
    go_quiet (fail)
    go_wp2
    go_quiet ((go_at_call 105; first | exact quiet_left HK.out | exact quiet_add HK.out | exact quiet_add3 HK.out))
    go_wp2
    go_ret
    exact ⟨rfl, below_drewN (below_drewN (below_drewN ((Below.refl _ _).alloc (Nat.le_refl _) _) _) _) _⟩
  · obtain rfl : r = .nilIface := by rw [hr.out, if_neg hck]
    have hck2 : (c == k) = false := beq_eq_false_iff_ne.2 hck
    clear hr hck
    go_enter Tryd.func81, Tryd.ntmps81
    go_wp2
    go_quiet (fail)
    go_wp2
    go_quiet (fail)
    go_wp2
    go_quiet ((go_at_call 105; first | exact quiet_left HK.out | exact quiet_add HK.out | exact quiet_add3 HK.out))
    go_wp2
    go_ret
    exact ⟨rfl, below_drewN (below_drewN (below_drewN ((Below.refl _ _).alloc (Nat.le_refl _) _) _) _) _⟩
end Go.Proofs.YtcdlfgggmigcnaaDoor.Find
