/- The contracts of container/heap's up and down at the free numbers. -/
import Derived.Test.YtcdlfgggmigcnaaDoorMeth
import Derived.LoopTactic
import Derived.Outline
namespace Go.Proofs.YtcdlfgggmigcnaaDoor.Nums
set_option maxRecDepth 100000
open Go.RowKit
open Go.Proofs.YtcdlfgggmigcnaaDoor.Own Go.Proofs.YtcdlfgggmigcnaaDoor.Hp Go.Proofs.YtcdlfgggmigcnaaDoor.HeapOrd Go.Proofs.YtcdlfgggmigcnaaDoor.Rep Go.Proofs.YtcdlfgggmigcnaaDoor.Meth

/-- What up and down keep: the row of the numbers, in another order; all else as it was. -/
structure Sifted (w wr : World) (base g c n : Nat) (f0 f : Nat → Nat) : Prop where
  row : wr.ownsRow base 3 1 (.slice (some ⟨g, 0, none⟩) n c) n (fcells n f)
  keeps : Keeps (fun b => b = g) w wr
  sames : Sames n f0 f

set_option maxHeartbeats 4000000 in
theorem up_any (base hp k g c n j : Nat) (f0 : Nat → Nat) (w : World) (hn : n ≤ 65536) (hc : w.cell? ⟨hp, k, none⟩ = some (.slice (some ⟨g, 0, none⟩) n c)) (hne : hp ≠ g)
    (h0 : w.ownsRow base 3 1 (.slice (some ⟨g, 0, none⟩) n c) n (fcells n f0)) (hu : UpInv f0 n j) :
    Calls Tryd.prog 135 #[.iface 185 (.pointer (some ⟨hp, k, none⟩)), .int .i64 (j : Int)] w fun e w' => e = .returned (.tuple #[]) ∧ ∃ f, Sifted w w' base g c n f0 f ∧ Ord f n := by
  have hS : Sifted w w base g c n f0 f0 := ⟨h0, .refl _ _, .refl _ _⟩
  have HS := Lib.hid hS
  have HU := Lib.hid hu
  have mLess := meth_less hp k
  have mSwap := meth_swap hp k
  have HNe := Lib.hid hne
  have HC := Lib.hid hc
  clear h0 hS hu hne hc
  go_enter Tryd.func135, Tryd.ntmps135
  go_wp2
  go_loopw [1] (fun j wr => ∃ jn f, j = .int .i64 (jn : Nat) ∧ Hid (Sifted w wr base g c n f0 f) ∧ Hid (UpInv f n jn)) (fun j _ => (intOf j).toNat)
  case atStart => exact ⟨j, f0, rfl, HS, HU⟩
  case round =>
    obtain ⟨jn, f, rfl, HS1, HU1⟩ := hrel
    have hlt : jn < n := HU1.out.lt
    have hc1 : wr.cell? ⟨hp, k, none⟩ = some (.slice (some ⟨g, 0, none⟩) n c) := cell_keeps HS1.out.keeps HC.out (fun e => HNe.out e)
    by_cases hz : jn = 0
    · subst hz
      have hd : ((0 : Int) - 1).tdiv 2 = 0 := rfl
      go_wp2_with fail
      go_end0
      exact ⟨rfl, f, HS1.out, HU1.out.stop (.inl rfl)⟩
    · obtain ⟨p, hp0⟩ : ∃ p, (jn - 1) / 2 = p := ⟨_, rfl⟩
      have hd : ((jn : Int) - 1) / 2 = (p : Int) := by omega
      have hpj : p < jn := by omega
      have hne2 : ((p : Int) == (jn : Int)) = false := beq_eq_false_iff_ne.2 (by omega)
      have hne3 : (p == jn) = false := beq_eq_false_iff_ne.2 (by omega)
      have hr := Row.of_owns HS1.out.row
      have hL := fun w => less_any g n c jn p (f jn : Int) (f p : Int) w hlt (by omega)
      have HL := Lib.hid (hL wr (hr.cell jn _ (fcells_at n f jn hlt)) (hr.cell p _ (fcells_at n f p (by omega))))
      have HP := Lib.hid hp0
      clear hL hr hp0
      by_cases hless : f jn < f p
      · have hb : decide ((f jn : Int) < (f p : Int)) = true := decide_eq_true (by omega)
        have HB := Lib.hid hb
        clear hb
        go_wp2_with (go_at_call 158; refine HL.out.mono ?_; rintro e w1 ⟨rfl, q1, rfl⟩; rw [HB.out])
        refine (swap_any base g n c p jn f _ (by omega) hlt (by exact HS1.out.row)).mono ?_
        rintro e w2 ⟨rfl, hrow, hk⟩
        have HS2 := Lib.hid (show Sifted w w2 base g c n f0 (swap f p jn) from ⟨hrow, (HS1.out.keeps.drewN q1).trans hk, HS1.out.sames.trans (sames_swap n f p jn (by omega) hlt)⟩)
        have HU2 := Lib.hid (show UpInv (swap f p jn) n p by rw [← HP.out]; exact HU1.out.step (by omega) (by rw [HP.out]; exact hless))
        clear hrow hk hless HU1 HS1 HL
        go_wp2_with fail
        go_roundw
        case rel => exact ⟨p, _, rfl, HS2, HU2⟩
        case measure => simp [intOf]; omega
      · have hb : decide ((f jn : Int) < (f p : Int)) = false := decide_eq_false (by omega)
        have HB := Lib.hid hb
        clear hb
        go_wp2_with (go_at_call 158; refine HL.out.mono ?_; rintro e w1 ⟨rfl, q1, rfl⟩; rw [HB.out])
        go_end0
        exact ⟨rfl, f, ⟨HS1.out.row, HS1.out.keeps.drewN q1, HS1.out.sames⟩, HU1.out.stop (.inr (by rw [HP.out]; omega))⟩
end Go.Proofs.YtcdlfgggmigcnaaDoor.Nums
