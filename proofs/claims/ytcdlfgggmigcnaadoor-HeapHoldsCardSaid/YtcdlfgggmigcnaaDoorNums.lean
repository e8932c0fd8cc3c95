/- The contracts of the methods of the free numbers. -/
import Derived.Test.YtcdlfgggmigcnaaDoorRep
import Derived.Test.YtcdlfgggmigcnaaDoorRows
import Derived.WalkSpells
import Derived.WalkLawsBesides
import Derived.RegionTactic
import Derived.BigQuiet
import Derived.Deep.QuietTactic
import Derived.ChangeAlike
namespace Go.Proofs.YtcdlfgggmigcnaaDoor.Nums
open Go.RowKit
open Go.Proofs.YtcdlfgggmigcnaaDoor.Own Go.Proofs.YtcdlfgggmigcnaaDoor.Hp Go.Proofs.YtcdlfgggmigcnaaDoor.HeapOrd Go.Proofs.YtcdlfgggmigcnaaDoor.Rep

theorem len_any (A : Option Addr) (n c : Nat) (w : World) : Calls Tryd.prog 157 #[.slice A n c] w fun e w' => e = .returned (.int .i64 (n : Int)) ∧ w = w' := by
  go_enter Tryd.func157, Tryd.ntmps157
  go_wp2
  go_ret
  exact ⟨rfl, rfl⟩
theorem less_any (g n c i j : Nat) (x y : Int) (w : World) (hi : i < n) (hj : j < n) (h1 : w.cell? ⟨g, i, none⟩ = some (.int .i64 x)) (h2 : w.cell? ⟨g, j, none⟩ = some (.int .i64 y)) :
    Calls Tryd.prog 158 #[.slice (some ⟨g, 0, none⟩) n c, .int .i64 (i : Int), .int .i64 (j : Int)] w fun e w' => e = .returned (.bool (decide (x < y))) ∧ ∃ q, w' = w.drewN q := by
  go_enter Tryd.func158, Tryd.ntmps158
  go_wp2
  go_quiet (fail)
  go_wp2
  go_ret
  exact ⟨rfl, _, rfl⟩
set_option maxHeartbeats 2000000 in
theorem swap_core (g n c i j : Nat) (x y : Int) (w : World) (hi : i < n) (hj : j < n) (h1 : w.cell? ⟨g, i, none⟩ = some (.int .i64 x)) (h2 : w.cell? ⟨g, j, none⟩ = some (.int .i64 y))
    (f1 : w.frozen? ⟨g, i, none⟩ = false) (f2 : w.frozen? ⟨g, j, none⟩ = false) :
    Calls Tryd.prog 159 #[.slice (some ⟨g, 0, none⟩) n c, .int .i64 (i : Int), .int .i64 (j : Int)] w fun e w' => e = .returned (.tuple #[]) ∧ ∃ q, w' = ((w.setCell ⟨g, i, none⟩ (.int .i64 y)).setCell ⟨g, j, none⟩ (.int .i64 x)).drewN q := by
  obtain ⟨v', hy'⟩ := cell?_setCell_some (w := w) (p := ⟨g, i, none⟩) (x := .int .i64 y) (q := ⟨g, j, none⟩) (v := .int .i64 y) h2
  go_enter Tryd.func159, Tryd.ntmps159
  go_wp2
  go_region
  all_goals (go_end0; exact ⟨rfl, 1, rfl⟩)
theorem fcells_at (n : Nat) (f : Nat → Nat) (k : Nat) (h : k < n) : (fcells n f)[k]? = some (.int .i64 (f k : Int)) := by
  unfold fcells
  simp [h]
theorem fcells_swap (n : Nat) (f : Nat → Nat) (i j : Nat) (hi : i < n) (hj : j < n) : ((fcells n f).set i (.int .i64 (f j : Int))).set j (.int .i64 (f i : Int)) = fcells n (swap f i j) := by
  apply List.ext_getElem?
  intro k
  by_cases hk : k < n
  · rw [fcells_at n (swap f i j) k hk, List.getElem?_set, List.getElem?_set]
    have hl : (fcells n f).length = n := by simp [fcells]
    by_cases e : j = k
    · subst e
      rw [if_pos rfl, if_pos (by simpa [hl] using hj), swap_right]
    · rw [if_neg e]
      by_cases e2 : i = k
      · subst e2
        rw [if_pos rfl, if_pos (by simpa [hl] using hi), swap_left]
      · rw [if_neg e2, fcells_at n f k hk, swap_ne f (fun h => e2 h.symm) (fun h => e h.symm)]
  · rw [List.getElem?_eq_none (by simp [fcells]; omega), List.getElem?_eq_none (by simp [fcells]; omega)]
theorem swap_any (base g n c i j : Nat) (f : Nat → Nat) (w : World) (hi : i < n) (hj : j < n) (h : w.ownsRow base 3 1 (.slice (some ⟨g, 0, none⟩) n c) n (fcells n f)) :
    Calls Tryd.prog 159 #[.slice (some ⟨g, 0, none⟩) n c, .int .i64 (i : Int), .int .i64 (j : Int)] w fun e w' => e = .returned (.tuple #[]) ∧ w'.ownsRow base 3 1 (.slice (some ⟨g, 0, none⟩) n c) n (fcells n (swap f i j)) ∧ Keeps (fun b => b = g) w w' := by
  have hr := Row.of_owns h
  refine (swap_core g n c i j (f i) (f j) w hi hj (hr.cell i _ (fcells_at n f i hi)) (hr.cell j _ (fcells_at n f j hj)) (hr.free i) (hr.free j)).mono ?_
  rintro e w' ⟨he, q, rfl⟩
  refine ⟨he, ?_, (((Keeps.refl (fun b => b = g) w).setCell ⟨g, i, none⟩ _ fun _ => rfl).setCell ⟨g, j, none⟩ _ fun _ => rfl).drewN q⟩
  rw [← fcells_swap n f i j hi hj]
  exact owns_set (owns_set h i _) j _
end Go.Proofs.YtcdlfgggmigcnaaDoor.Nums
