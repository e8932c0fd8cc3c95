/- The contract of copyistkit.Same at integers: it compares two slices element by element. -/
import Derived.Test.YtagcfgonajogcaaDoorList
import Derived.BigQuiet
import Derived.Deep.QuietTactic
namespace Go.Proofs.YtagcfgonajogcaaDoor.Lst
open Go.RowKit Go.Shelf Go.Lib

/-- A slice value that reads as a list of integers. -/
def IntSl (w : World) (v : Value) (R : List Int) : Prop :=
  ∃ A cap, v = .slice A R.length cap ∧ R.length ≤ cap ∧ (0 < R.length → ∃ g off, A = some ⟨g, off, none⟩ ∧ ∀ j, j < R.length → w.cell? ⟨g, off + j, none⟩ = some (.int .i64 (R.getD j 0)))

theorem IntSl.of_own {w : World} {base : Nat} {e : TypeId} {v : Value} {n : Nat} {R : List Int} (h : w.ownsRow base e 1 v n (R.map (Value.int .i64))) : IntSl w v R := by
  have hn : R.length = n := by have := h.1; simpa using this
  rcases h.2 with ⟨rfl, h0⟩ | ⟨g, cap, cur, rfl, hb, hg, hcap, _, hcs, htake⟩
  · exact ⟨none, 0, by rw [hn, h0], by omega, fun hh => by omega⟩
  · refine ⟨_, cap, by rw [hn], by omega, fun _ => ⟨g, 0, rfl, fun j hj => ?_⟩⟩
    have h1 : (R.map (Value.int .i64))[j]? = some (.int .i64 (R.getD j 0)) := by simp [List.getD, List.getElem?_eq_getElem hj]
    rw [← htake, List.getElem?_take, if_pos (by omega)] at h1
    simp only [World.cell?, hg, Nat.zero_add]
    simpa using h1

theorem IntSl.below {w w' : World} {v : Value} {R : List Int} (h : IntSl w v R) (hb : Below w.heap.size w w') : IntSl w' v R := by
  obtain ⟨A, cap, hv, hc, hr⟩ := h
  refine ⟨A, cap, hv, hc, fun h0 => ?_⟩
  obtain ⟨g, off, hA, hj⟩ := hr h0
  exact ⟨g, off, hA, fun j hlt => (hb.cell (World.block_lt_of_cell? _ _ (hj j hlt))).trans (hj j hlt)⟩
theorem IntSl.drewN {w : World} {v : Value} {R : List Int} (h : IntSl w v R) (q : Nat) : IntSl (w.drewN q) v R := h

set_option maxHeartbeats 2000000 in
theorem same_core (A1 A2 : Option Addr) (n c1 c2 : Nat) (R1 R2 : List Int) (w : World) (HN : Hid (R1.length = n ∧ R2.length = n)) (hn : n < 4611686018427387904)
    (R1' : Hid (0 < n → ∃ g off, A1 = some ⟨g, off, none⟩ ∧ ∀ j, j < n → w.cell? ⟨g, off + j, none⟩ = some (.int .i64 (R1.getD j 0))))
    (R2' : Hid (0 < n → ∃ g off, A2 = some ⟨g, off, none⟩ ∧ ∀ j, j < n → w.cell? ⟨g, off + j, none⟩ = some (.int .i64 (R2.getD j 0)))) :
    Calls Tryd.prog 30 #[.slice A1 n c1, .slice A2 n c2] w fun e w' => e = .returned (.bool (R1 == R2)) ∧ ∃ q, w' = w.drewN q := by
  obtain ⟨B, hB⟩ : ∃ B, (R1 == R2) = B := ⟨_, rfl⟩
  rw [hB]
  have HB := Lib.hid hB
  clear hB
  go_enter Tryd.func30, Tryd.ntmps30
  go_wp2
  go_loopw [5] (fun s wr => ∃ k : Nat, s = .int .i64 (k : Int) ∧ Hid (∃ q, wr = w.drewN q) ∧ k ≤ n ∧ Hid (R1.take k = R2.take k)) (fun s _ => n - (intOf s).toNat)
  case atStart => exact ⟨0, rfl, ⟨0, rfl⟩, Nat.zero_le _, rfl⟩
  case round =>
    obtain ⟨k, rfl, HQ, hk, HI⟩ := hrel
    by_cases hlt : k < n
    · have hltz : (k : Int) < n := by omega
      obtain ⟨g1, o1, rfl, d1⟩ := R1'.out (by omega)
      obtain ⟨g2, o2, rfl, d2⟩ := R2'.out (by omega)
      have e1 : wr.cell? ⟨g1, o1 + k, none⟩ = some (.int .i64 (R1.getD k 0)) := by obtain ⟨q, hq⟩ := HQ.out; rw [hq]; exact d1 k hlt
      have e2 : wr.cell? ⟨g2, o2 + k, none⟩ = some (.int .i64 (R2.getD k 0)) := by obtain ⟨q, hq⟩ := HQ.out; rw [hq]; exact d2 k hlt
      obtain ⟨x, hx⟩ : ∃ x, R1.getD k 0 = x := ⟨_, rfl⟩
      obtain ⟨y, hy⟩ : ∃ y, R2.getD k 0 = y := ⟨_, rfl⟩
      rw [hx] at e1
      rw [hy] at e2
      have t1 : R1.take (k + 1) = R1.take k ++ [x] := by
        rw [List.take_add_one, ← hx]
        simp [List.getElem?_eq_getElem (show k < R1.length by rw [HN.out.1]; exact hlt)]
      have t2 : R2.take (k + 1) = R2.take k ++ [y] := by
        rw [List.take_add_one, ← hy]
        simp [List.getElem?_eq_getElem (show k < R2.length by rw [HN.out.2]; exact hlt)]
      by_cases hxy : x = y
      · have hI : Hid (R1.take (k + 1) = R2.take (k + 1)) := by show _ = _; rw [t1, t2, HI.out, hxy]
        clear t1 t2 hx hy HI d1 d2
        have hne : (x != y) = false := by simp [hxy]
        clear hxy
        go_wp2
        go_quiet (fail)
        go_wp2
        go_roundw
        case rel => exact ⟨k + 1, by go_num, by obtain ⟨q, hq⟩ := HQ.out; exact ⟨q + nq, by rw [hq, World.drewN_drewN]⟩, by omega, hI⟩
        case measure => simp [intOf]; omega
      · have hBf : B = false := by
          rw [← HB.out, beq_eq_false_iff_ne]
          intro he
          rw [he] at hx
          exact hxy (hx.symm.trans hy)
        have hne : (x != y) = true := by simp [hxy]
        clear t1 t2 hx hy HI d1 d2 hxy HB
        subst hBf
        go_wp2
        go_quiet (fail)
        go_wp2
        go_ret
        obtain ⟨q, hq⟩ := HQ.out
        exact ⟨rfl, q + nq, by rw [hq, World.drewN_drewN]⟩
    · have hltz : ¬ (k : Int) < n := by omega
      have hBt : B = true := by
        rw [← HB.out, beq_iff_eq]
        have := HI.out
        rwa [List.take_of_length_le (by rw [HN.out.1]; omega), List.take_of_length_le (by rw [HN.out.2]; omega)] at this
      clear HI HB
      subst hBt
      go_wp2
      go_ret
      exact ⟨rfl, HQ.out⟩

set_option maxHeartbeats 1000000 in
theorem same_any (v1 v2 : Value) (R1 R2 : List Int) (w : World) (h1 : IntSl w v1 R1) (h2 : IntSl w v2 R2) (b1 : R1.length < 4611686018427387904) :
    Calls Tryd.prog 30 #[v1, v2] w fun e w' => e = .returned (.bool (R1 == R2)) ∧ ∃ q, w' = w.drewN q := by
  obtain ⟨A1, c1, rfl, k1, r1⟩ := h1
  obtain ⟨A2, c2, rfl, k2, r2⟩ := h2
  by_cases hl : R1.length = R2.length
  · rw [← hl] at r2 ⊢
    exact same_core A1 A2 R1.length c1 c2 R1 R2 w ⟨rfl, hl.symm⟩ b1 r1 r2
  · have hB : (R1 == R2) = false := by
      rw [beq_eq_false_iff_ne]
      rintro rfl
      exact hl rfl
    rw [hB]
    generalize R1.length = n1 at *
    generalize R2.length = n2 at *
    have hne : ((n1 : Int) != (n2 : Int)) = true := by simp; omega
    have hne2 : (n1 != n2) = true := by simp; omega
    clear r1 r2 hB
    go_enter Tryd.func30, Tryd.ntmps30
    go_wp2
    go_ret
    exact ⟨rfl, 0, rfl⟩
end Go.Proofs.YtagcfgonajogcaaDoor.Lst
