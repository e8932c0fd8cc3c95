/- What HeapNames wants besides: heaps that are nil, New of no heap, and the example's objects. -/
import Derived.Test.YtcdlfgggmigcnaaDoorStores
import Derived.Test.YtcdlfgggmigcnaaDoorSetCar
namespace Go.Proofs.YtcdlfgggmigcnaaDoor.Stores
set_option maxRecDepth 100000
open Go.RowKit
open Go.Lib (validD)
open Go.Proofs.YtcdlfgggmigcnaaDoor.Own Go.Proofs.YtcdlfgggmigcnaaDoor.Hp Go.Proofs.YtcdlfgggmigcnaaDoor.Rep Go.Proofs.YtcdlfgggmigcnaaDoor.Get Go.Proofs.YtcdlfgggmigcnaaDoor.Quick Go.Proofs.YtcdlfgggmigcnaaDoor.Add Go.Proofs.YtcdlfgggmigcnaaDoor.Make Go.Proofs.YtcdlfgggmigcnaaDoor.Kit Go.Proofs.YtcdlfgggmigcnaaDoor.Strs Go.Proofs.YtcdlfgggmigcnaaDoor.Clone Go.Proofs.YtcdlfgggmigcnaaDoor.Lives Go.Proofs.YtcdlfgggmigcnaaDoor.Car

theorem new_zero (w : World) : Calls Tryd.prog 16 #[.int .i64 0] w fun e w' => e = .returned (.tuple #[.pointer none, .int .i64 3]) ∧ w = w' := by
  go_enter Tryd.func16, Tryd.ntmps16
  go_wp2_with fail
  go_ret2
  exact ⟨rfl, rfl⟩
theorem copy_nil (w : World) : Calls Tryd.prog 27 #[.pointer none] w fun e w' => e = .returned (.pointer none) ∧ w = w' := by
  have HV := Lib.hid Base.valid_nil
  go_enter Tryd.func27, Tryd.ntmps27
  go_wp2_with fail
  refine (HV.out _).mono ?_
  rintro e w' ⟨rfl, rfl⟩
  go_wp2_with fail
  go_ret
  exact ⟨rfl, rfl⟩
theorem cons_nil (x y : Wd) (w : World) : Calls Tryd.prog 17 #[.pointer none, wd x, wd y] w fun e w' => e = .returned (.tuple #[wd (0, 0), .int .i64 1]) ∧ Below w.heap.size w w' := by
  have HV := Lib.hid Base.valid_nil
  have hb := (((Below.refl w.heap.size w).alloc (Nat.le_refl _) (.cells #[.int .i64 x.1, .int .i64 x.2] 28)).alloc (by simp) (.cells #[.int .i64 y.1, .int .i64 y.2] 28)).alloc (by simp; omega) (.cells #[.int .i64 0, .int .i64 0] 28)
  have HB := Lib.hid hb
  clear hb
  go_enter Tryd.func17, Tryd.ntmps17
  go_wp2_with fail
  refine (HV.out _).mono ?_
  rintro e w' ⟨rfl, rfl⟩
  go_wp2_with fail
  refine bodyPost_ret (v := .tuple #[wd (0, 0), .int .i64 1]) (by simp [results, Tryd.results17, go_sem]) rfl ⟨rfl, ?_⟩
  first
    | exact HB.out
    | exact (HB.out.setCell (by simp; omega) _).setCell (by simp; omega) _
theorem setCar_none {w : World} {base hp lim : Nat} {ob : Obs} {lab : Nat → Option Lab} {P : Parts} (h : HeapIs w base hp lim ob lab P) (x y : Wd) (hf : findO ob x = none) :
    Calls Tryd.prog 29 #[ptr hp, wd x, wd y] w fun e w' => e = .returned (.int .i64 6) ∧ Below w.heap.size w w' := by
  rcases get_cons_any h x with ⟨⟨g, ho, hvs, hr⟩, hk⟩ | ⟨hr, hk⟩
  · rw [hf] at hk; simp at hk
  · exact SetCar.setCar_no hp x y w hr

def obQ : Obs := put noObs 1 (some (.text ⟨#[97]⟩ 1))
theorem ob2_collected : collected ob2 [(3, 1)] = obQ := by
  have hc := collected_of_marks ob2 [(3, 1)] (fun i => decide (i = 1)) (fun i hi => by
    have hi := of_decide_eq_true hi
    subst hi
    exact Reach.root (f := ob2) (roots := [(3, 1)]) (3, 1) _ (by simp) (findO_mk (o := .text ⟨#[97]⟩ 1) (by simp) rfl rfl)) (fun w o hw _ => by
    simp only [List.mem_cons, List.not_mem_nil, or_false] at hw
    subst hw
    simp) (fun i p w o hi hp hw ho => by
    have hi := of_decide_eq_true hi
    subst hi
    have hp : some (Ob.text ⟨#[97]⟩ 1) = some p := hp
    cases hp
    simp [Ob.words] at hw)
  funext i
  rw [hc i]
  unfold obQ
  by_cases hi : i = 1
  · subst hi; rfl
  · rw [put_other _ _ _ _ hi]; simp [hi, noObs]
theorem ob2_many : manyTo ob2 2 = 2 := by kernel_rfl
theorem obQ_many : manyTo obQ 2 = 1 := by kernel_rfl
def obR : Obs := put obQ 0 (some (.vec []))
theorem obQ_vec : vecO obQ 2 [] = ((4, 0), 0, obR) := by kernel_rfl
theorem obR_car1 : carO obR (1, 0) = ((1, 0), 0) := by kernel_rfl
theorem obR_find1 : findO obR (1, 0) = none := by kernel_rfl
theorem obR_find5 : findO obR (0, 5) = none := by kernel_rfl
theorem obR_car5 : carO obR (0, 5) = ((0, 0), 6) := by
  unfold carO
  rw [if_neg (by decide), obR_find5]
theorem obR_text : textO obR 2 ⟨#[255]⟩ = ((0, 0), 5, obR) := by kernel_rfl
end Go.Proofs.YtcdlfgggmigcnaaDoor.Stores
