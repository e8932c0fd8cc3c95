/- The contract of copyistkit.Same at words, for slices of the same words. -/
import Derived.Test.YtcdlfgggmigcnaaDoorEach
import Derived.Test.YtcdlfgggmigcnaaDoorClone
namespace Go.Proofs.YtcdlfgggmigcnaaDoor.SameW
set_option maxRecDepth 100000
open Go.RowKit
open Go.Proofs.YtcdlfgggmigcnaaDoor.Own Go.Proofs.YtcdlfgggmigcnaaDoor.Hp Go.Proofs.YtcdlfgggmigcnaaDoor.Rep Go.Proofs.YtcdlfgggmigcnaaDoor.Clone

set_option maxHeartbeats 2000000 in
theorem same_core (A1 A2 : Option Addr) (n c1 c2 : Nat) (l : List Wd) (w : World) (HN : Hid (l.length = n)) (hn : n ≤ 65536)
    (R1' : Hid (0 < n → ∃ g off, A1 = some ⟨g, off, none⟩ ∧ ∀ j u, (wcells l)[j]? = some u → w.cell? ⟨g, off + j, none⟩ = some u))
    (R2' : Hid (0 < n → ∃ g off, A2 = some ⟨g, off, none⟩ ∧ ∀ j u, (wcells l)[j]? = some u → w.cell? ⟨g, off + j, none⟩ = some u)) :
    Calls Tryd.prog 40 #[.slice A1 n c1, .slice A2 n c2] w fun e w' => e = .returned (.bool true) ∧ ∃ q, w' = w.drewN q := by
  go_enter Tryd.func40, Tryd.ntmps40
  go_wp2
  go_loopw [5] (fun s wr => ∃ k : Nat, s = .int .i64 (k : Int) ∧ Hid (∃ q, wr = w.drewN q) ∧ k ≤ n) (fun s _ => n - (intOf s).toNat)
  case atStart => exact ⟨0, rfl, ⟨0, rfl⟩, Nat.zero_le _⟩
  case round =>
    obtain ⟨k, rfl, HQ, hk⟩ := hrel
    by_cases hlt : k < n
    · have hltz : (k : Int) < n := by omega
      obtain ⟨g1, o1, rfl, d1⟩ := R1'.out (by omega)
      obtain ⟨g2, o2, rfl, d2⟩ := R2'.out (by omega)
      obtain ⟨x, hx⟩ : ∃ x, l[k]'(by rw [HN.out]; exact hlt) = x := ⟨_, rfl⟩
      obtain ⟨t1, t2⟩ := Visit.wcells_at l k (by rw [HN.out]; exact hlt)
      rw [hx] at t1 t2
      have e1 : wr.cell? ⟨g1, o1 + k * 2, none⟩ = some (.int .i64 x.1) := by obtain ⟨q, hq⟩ := HQ.out; rw [hq]; exact d1 _ _ t1
      have e2 : wr.cell? ⟨g1, o1 + k * 2 + 1, none⟩ = some (.int .i64 x.2) := by obtain ⟨q, hq⟩ := HQ.out; rw [hq]; exact d1 _ _ t2
      have e3 : wr.cell? ⟨g2, o2 + k * 2, none⟩ = some (.int .i64 x.1) := by obtain ⟨q, hq⟩ := HQ.out; rw [hq]; exact d2 _ _ t1
      have e4 : wr.cell? ⟨g2, o2 + k * 2 + 1, none⟩ = some (.int .i64 x.2) := by obtain ⟨q, hq⟩ := HQ.out; rw [hq]; exact d2 _ _ t2
      clear t1 t2 hx d1 d2
      go_wp2
      go_quiet (fail)
      go_wp2
      go_roundw
      case rel => exact ⟨k + 1, by go_num, by obtain ⟨q, hq⟩ := HQ.out; exact ⟨q + nq, by rw [hq, World.drewN_drewN]⟩, by omega⟩
      case measure => simp [intOf]; omega
    · have hltz : ¬ (k : Int) < n := by omega
      go_wp2
      go_ret
      exact ⟨rfl, HQ.out⟩
theorem same_eq (v1 v2 : Value) (l : List Wd) (w : World) (h1 : SlR w v1 l.length (wcells l)) (h2 : SlR w v2 l.length (wcells l)) (hn : l.length ≤ 65536) :
    Calls Tryd.prog 40 #[v1, v2] w fun e w' => e = .returned (.bool true) ∧ Below w.heap.size w w' := by
  obtain ⟨A1, c1, rfl, _, r1⟩ := h1
  obtain ⟨A2, c2, rfl, _, r2⟩ := h2
  refine (same_core A1 A2 _ c1 c2 l w rfl hn r1 r2).mono ?_
  rintro e w' ⟨he, q, rfl⟩
  exact ⟨he, ⟨rfl, rfl, rfl, Nat.le_refl _, fun _ _ => rfl⟩⟩
end Go.Proofs.YtcdlfgggmigcnaaDoor.SameW
