/- The contract of container/heap's down at the free numbers. -/
import Derived.Test.YtcdlfgggmigcnaaDoorSift
namespace Go.Proofs.YtcdlfgggmigcnaaDoor.Nums
set_option maxRecDepth 100000
open Go.RowKit
open Go.Proofs.YtcdlfgggmigcnaaDoor.Own Go.Proofs.YtcdlfgggmigcnaaDoor.Hp Go.Proofs.YtcdlfgggmigcnaaDoor.HeapOrd Go.Proofs.YtcdlfgggmigcnaaDoor.Rep Go.Proofs.YtcdlfgggmigcnaaDoor.Meth

theorem less_at (g n c i j : Nat) (a b : Int) (ha : a = (i : Int)) (hb : b = (j : Int)) (x y : Int) (w : World) (hi : i < n) (hj : j < n) (h1 : w.cell? ⟨g, i, none⟩ = some (.int .i64 x)) (h2 : w.cell? ⟨g, j, none⟩ = some (.int .i64 y)) :
    Calls Tryd.prog 158 #[.slice (some ⟨g, 0, none⟩) n c, .int .i64 a, .int .i64 b] w fun e w' => e = .returned (.bool (decide (x < y))) ∧ ∃ q, w' = w.drewN q := by
  subst ha hb
  exact less_any g n c i j x y w hi hj h1 h2
theorem swap_at' (base g n c i j : Nat) (a b : Int) (ha : a = (i : Int)) (hb : b = (j : Int)) (f : Nat → Nat) (w : World) (hi : i < n) (hj : j < n) (h : w.ownsRow base 3 1 (.slice (some ⟨g, 0, none⟩) n c) n (fcells n f)) :
    Calls Tryd.prog 159 #[.slice (some ⟨g, 0, none⟩) n c, .int .i64 a, .int .i64 b] w fun e w' => e = .returned (.tuple #[]) ∧ w'.ownsRow base 3 1 (.slice (some ⟨g, 0, none⟩) n c) n (fcells n (swap f i j)) ∧ Keeps (fun b => b = g) w w' := by
  subst ha hb
  exact swap_any base g n c i j f w hi hj h

structure SiftedD (w wr : World) (base g c m : Nat) (f0 f : Nat → Nat) : Prop extends Sifted w wr base g c (m + 1) f0 f where
  last : f m = f0 m

set_option maxHeartbeats 8000000 in
theorem down_any (base hp k g c m : Nat) (f0 : Nat → Nat) (w : World) (hn : m ≤ 65536) (hc : w.cell? ⟨hp, k, none⟩ = some (.slice (some ⟨g, 0, none⟩) (m + 1) c)) (hne : hp ≠ g)
    (h0 : w.ownsRow base 3 1 (.slice (some ⟨g, 0, none⟩) (m + 1) c) (m + 1) (fcells (m + 1) f0)) (hu : DownInv f0 m 0) :
    Calls Tryd.prog 137 #[.iface 185 (.pointer (some ⟨hp, k, none⟩)), .int .i64 0, .int .i64 (m : Int)] w fun e w' => (∃ b, e = .returned (.bool b)) ∧ ∃ f, SiftedD w w' base g c m f0 f ∧ Ord f m := by
  have hS : SiftedD w w base g c m f0 f0 := ⟨⟨h0, .refl _ _, .refl _ _⟩, rfl⟩
  have HS := Lib.hid hS
  have HU := Lib.hid hu
  have mLess := meth_less hp k
  have mSwap := meth_swap hp k
  have HNe := Lib.hid hne
  have HC := Lib.hid hc
  clear h0 hS hu hne hc
  go_enter Tryd.func137, Tryd.ntmps137
  go_wp2
  go_loopw [7] (fun j wr => ∃ i f, j = .int .i64 (i : Nat) ∧ Hid (SiftedD w wr base g c m f0 f) ∧ Hid (DownInv f m i) ∧ i ≤ m) (fun j _ => m - (intOf j).toNat)
  case atStart => exact ⟨0, f0, rfl, HS, HU, by omega⟩
  case round =>
    obtain ⟨i, f, rfl, HS1, HD1, him⟩ := hrel
    have hc1 : wr.cell? ⟨hp, k, none⟩ = some (.slice (some ⟨g, 0, none⟩) (m + 1) c) := cell_keeps HS1.out.keeps HC.out (fun e => HNe.out e)
    have hcell : ∀ a, a < m + 1 → wr.cell? ⟨g, a, none⟩ = some (.int .i64 (f a : Int)) := fun a ha => (Row.of_owns HS1.out.row).cell a _ (fcells_at (m + 1) f a ha)
    by_cases hleaf : m ≤ 2 * i + 1
    · have hd1 : decide ((m : Int) ≤ 2 * (i : Int) + 1) = true := decide_eq_true (by omega)
      clear hcell
      go_wp2_with fail
      go_ret
      exact ⟨⟨_, rfl⟩, f, HS1.out, HD1.out.leaf hleaf⟩
    · have hd1 : decide ((m : Int) ≤ 2 * (i : Int) + 1) = false := decide_eq_false (by omega)
      have hd2 : decide (2 * (i : Int) + 1 < 0) = false := decide_eq_false (by omega)
      by_cases h2 : 2 * i + 2 < m
      · have hd3 : decide (2 * (i : Int) + 1 + 1 < m) = true := decide_eq_true (by omega)
        by_cases hless : f (2 * i + 2) < f (2 * i + 1)
        · have hb1 : decide ((f (2 * i + 2) : Int) < (f (2 * i + 1) : Int)) = true := decide_eq_true (by omega)
          have HB1 := Lib.hid hb1
          clear hb1
          by_cases hlt2 : f (2 * i + 2) < f i
          · have hb2 : decide ((f (2 * i + 2) : Int) < (f i : Int)) = true := decide_eq_true (by omega)
            have HB2 := Lib.hid hb2
            clear hb2
            go_wp2_with fail
            refine (less_at g (m + 1) c (2 * i + 2) (2 * i + 1) _ _ (by omega) (by omega) (f (2 * i + 2) : Int) (f (2 * i + 1) : Int) _ (by omega) (by omega) (by exact hcell (2 * i + 2) (by omega)) (by exact hcell (2 * i + 1) (by omega))).mono ?_
            rintro e w1 ⟨rfl, q1, rfl⟩
            rw [HB1.out]
            go_wp2_with fail
            refine (less_at g (m + 1) c (2 * i + 2) i _ _ (by omega) (by omega) (f (2 * i + 2) : Int) (f i : Int) _ (by omega) (by omega) (by exact hcell (2 * i + 2) (by omega)) (by exact hcell i (by omega))).mono ?_
            rintro e w2 ⟨rfl, q2, rfl⟩
            rw [HB2.out]
            go_wp2_with fail
            refine (swap_at' base g (m + 1) c i (2 * i + 2) _ _ (by omega) (by omega) f _ (by omega) (by omega) (by exact HS1.out.row)).mono ?_
            rintro e w3 ⟨rfl, hrow, hk⟩
            have HS2 := Lib.hid (show SiftedD w w3 base g c m f0 (swap f i (2 * i + 2)) from ⟨⟨hrow, (HS1.out.keeps.trans (Keeps.of_below (below_drewN (Below.refl _ _) _))).trans hk, HS1.out.sames.trans (sames_swap (m + 1) f i (2 * i + 2) (by omega) (by omega))⟩, by rw [swap_ne f (by omega) (by omega)]; exact HS1.out.last⟩)
            have HD2 := Lib.hid (HD1.out.step (j := 2 * i + 2) (by omega) (by omega) hlt2 (by omega) (fun _ => by omega))
            clear hrow hk hlt2 hcell HS1 HD1
            go_wp2_with fail
            go_roundw
            case rel => exact ⟨2 * i + 2, _, by go_num, HS2, HD2, by omega⟩
            case measure => simp [intOf]; omega
          · have hb2 : decide ((f (2 * i + 2) : Int) < (f i : Int)) = false := decide_eq_false (by omega)
            have HB2 := Lib.hid hb2
            clear hb2
            go_wp2_with fail
            refine (less_at g (m + 1) c (2 * i + 2) (2 * i + 1) _ _ (by omega) (by omega) (f (2 * i + 2) : Int) (f (2 * i + 1) : Int) _ (by omega) (by omega) (by exact hcell (2 * i + 2) (by omega)) (by exact hcell (2 * i + 1) (by omega))).mono ?_
            rintro e w1 ⟨rfl, q1, rfl⟩
            rw [HB1.out]
            go_wp2_with fail
            refine (less_at g (m + 1) c (2 * i + 2) i _ _ (by omega) (by omega) (f (2 * i + 2) : Int) (f i : Int) _ (by omega) (by omega) (by exact hcell (2 * i + 2) (by omega)) (by exact hcell i (by omega))).mono ?_
            rintro e w2 ⟨rfl, q2, rfl⟩
            rw [HB2.out]
            go_wp2_with fail
            go_ret
            exact ⟨⟨_, rfl⟩, f, ⟨⟨by exact HS1.out.row, HS1.out.keeps.trans (Keeps.of_below (below_drewN (Below.refl _ _) _)), HS1.out.sames⟩, HS1.out.last⟩, HD1.out.stop (fun _ => by omega) (fun _ => by omega)⟩
        · have hb1 : decide ((f (2 * i + 2) : Int) < (f (2 * i + 1) : Int)) = false := decide_eq_false (by omega)
          have HB1 := Lib.hid hb1
          clear hb1
          by_cases hlt2 : f (2 * i + 1) < f i
          · have hb2 : decide ((f (2 * i + 1) : Int) < (f i : Int)) = true := decide_eq_true (by omega)
            have HB2 := Lib.hid hb2
            clear hb2
            go_wp2_with fail
            refine (less_at g (m + 1) c (2 * i + 2) (2 * i + 1) _ _ (by omega) (by omega) (f (2 * i + 2) : Int) (f (2 * i + 1) : Int) _ (by omega) (by omega) (by exact hcell (2 * i + 2) (by omega)) (by exact hcell (2 * i + 1) (by omega))).mono ?_
            rintro e w1 ⟨rfl, q1, rfl⟩
            rw [HB1.out]
            go_wp2_with fail
            refine (less_at g (m + 1) c (2 * i + 1) i _ _ (by omega) (by omega) (f (2 * i + 1) : Int) (f i : Int) _ (by omega) (by omega) (by exact hcell (2 * i + 1) (by omega)) (by exact hcell i (by omega))).mono ?_
            rintro e w2 ⟨rfl, q2, rfl⟩
            rw [HB2.out]
            go_wp2_with fail
            refine (swap_at' base g (m + 1) c i (2 * i + 1) _ _ (by omega) (by omega) f _ (by omega) (by omega) (by exact HS1.out.row)).mono ?_
            rintro e w3 ⟨rfl, hrow, hk⟩
            have HS2 := Lib.hid (show SiftedD w w3 base g c m f0 (swap f i (2 * i + 1)) from ⟨⟨hrow, (HS1.out.keeps.trans (Keeps.of_below (below_drewN (Below.refl _ _) _))).trans hk, HS1.out.sames.trans (sames_swap (m + 1) f i (2 * i + 1) (by omega) (by omega))⟩, by rw [swap_ne f (by omega) (by omega)]; exact HS1.out.last⟩)
            have HD2 := Lib.hid (HD1.out.step (j := 2 * i + 1) (by omega) (by omega) hlt2 (by omega) (fun _ => by omega))
            clear hrow hk hlt2 hcell HS1 HD1
            go_wp2_with fail
            go_roundw
            case rel => exact ⟨2 * i + 1, _, by go_num, HS2, HD2, by omega⟩
            case measure => simp [intOf]; omega
          · have hb2 : decide ((f (2 * i + 1) : Int) < (f i : Int)) = false := decide_eq_false (by omega)
            have HB2 := Lib.hid hb2
            clear hb2
            go_wp2_with fail
            refine (less_at g (m + 1) c (2 * i + 2) (2 * i + 1) _ _ (by omega) (by omega) (f (2 * i + 2) : Int) (f (2 * i + 1) : Int) _ (by omega) (by omega) (by exact hcell (2 * i + 2) (by omega)) (by exact hcell (2 * i + 1) (by omega))).mono ?_
            rintro e w1 ⟨rfl, q1, rfl⟩
            rw [HB1.out]
            go_wp2_with fail
            refine (less_at g (m + 1) c (2 * i + 1) i _ _ (by omega) (by omega) (f (2 * i + 1) : Int) (f i : Int) _ (by omega) (by omega) (by exact hcell (2 * i + 1) (by omega)) (by exact hcell i (by omega))).mono ?_
            rintro e w2 ⟨rfl, q2, rfl⟩
            rw [HB2.out]
            go_wp2_with fail
            go_ret
            exact ⟨⟨_, rfl⟩, f, ⟨⟨by exact HS1.out.row, HS1.out.keeps.trans (Keeps.of_below (below_drewN (Below.refl _ _) _)), HS1.out.sames⟩, HS1.out.last⟩, HD1.out.stop (fun _ => by omega) (fun _ => by omega)⟩
      · have hd3 : decide (2 * (i : Int) + 1 + 1 < m) = false := decide_eq_false (by omega)
        by_cases hlt2 : f (2 * i + 1) < f i
        · have hb2 : decide ((f (2 * i + 1) : Int) < (f i : Int)) = true := decide_eq_true (by omega)
          have HB2 := Lib.hid hb2
          clear hb2
          go_wp2_with fail
          refine (less_at g (m + 1) c (2 * i + 1) i _ _ (by omega) (by omega) (f (2 * i + 1) : Int) (f i : Int) _ (by omega) (by omega) (by exact hcell (2 * i + 1) (by omega)) (by exact hcell i (by omega))).mono ?_
          rintro e w2 ⟨rfl, q2, rfl⟩
          rw [HB2.out]
          go_wp2_with fail
          refine (swap_at' base g (m + 1) c i (2 * i + 1) _ _ (by omega) (by omega) f _ (by omega) (by omega) (by exact HS1.out.row)).mono ?_
          rintro e w3 ⟨rfl, hrow, hk⟩
          have HS2 := Lib.hid (show SiftedD w w3 base g c m f0 (swap f i (2 * i + 1)) from ⟨⟨hrow, (HS1.out.keeps.trans (Keeps.of_below (below_drewN (Below.refl _ _) _))).trans hk, HS1.out.sames.trans (sames_swap (m + 1) f i (2 * i + 1) (by omega) (by omega))⟩, by rw [swap_ne f (by omega) (by omega)]; exact HS1.out.last⟩)
          have HD2 := Lib.hid (HD1.out.step (j := 2 * i + 1) (by omega) (by omega) hlt2 (by omega) (fun h => absurd h h2))
          clear hrow hk hlt2 hcell HS1 HD1
          go_wp2_with fail
          go_roundw
          case rel => exact ⟨2 * i + 1, _, by go_num, HS2, HD2, by omega⟩
          case measure => simp [intOf]; omega
        · have hb2 : decide ((f (2 * i + 1) : Int) < (f i : Int)) = false := decide_eq_false (by omega)
          have HB2 := Lib.hid hb2
          clear hb2
          go_wp2_with fail
          refine (less_at g (m + 1) c (2 * i + 1) i _ _ (by omega) (by omega) (f (2 * i + 1) : Int) (f i : Int) _ (by omega) (by omega) (by exact hcell (2 * i + 1) (by omega)) (by exact hcell i (by omega))).mono ?_
          rintro e w2 ⟨rfl, q2, rfl⟩
          rw [HB2.out]
          go_wp2_with fail
          go_ret
          exact ⟨⟨_, rfl⟩, f, ⟨⟨by exact HS1.out.row, HS1.out.keeps.trans (Keeps.of_below (below_drewN (Below.refl _ _) _)), HS1.out.sames⟩, HS1.out.last⟩, HD1.out.stop (fun _ => by omega) (fun _ => by omega)⟩
end Go.Proofs.YtcdlfgggmigcnaaDoor.Nums
