/- The contract of slices.Delete at the end of a row of bindings. -/
import Derived.Test.YtkbdonecbepfnaaVsBind
import Derived.Laws.CopyRow
import Derived.Laws.Tables
import Derived.RegionTactic
namespace Go
/-- 'clear(s)', s a slice in a row that is known whole. -/
theorem run_clear_row {P : Program} (w : World) (t e ty : TypeId) (z : Value) (sz n : Nat) (ht : P.underlying t = some (.slice e)) (hv : ∀ w, (zeroValue e).run P w = .ok z w) (hsz : z.cells.size = sz) (h1 : ∀ u ∈ (Builtin.zeroCells z.cells n).toList, u.oneCell' = true) (g o c : Nat) (cur : Array Value)
    (hg : w.heap[g]? = some (.cells cur e (0, 0))) (hn : 0 < n) (hfit : o + n * sz ≤ cur.size) :
    (Builtin.clear_ #[t] ty #[.slice (some ⟨g, o, none⟩) n c]).run P w = .ok (.tuple #[]) (w.setRow g (cur.toList.take o ++ (Builtin.zeroCells z.cells n).toList ++ cur.toList.drop (o + n * sz)).toArray) := by
  have hl : (Builtin.zeroCells z.cells n).toList.length = n * sz := by rw [Array.length_toList, size_zeroCells, hsz]
  have hst := run_storeCells_at (P := P) g o e (Builtin.zeroCells z.cells n).toList 0 cur w hg (by rw [hl]; omega) h1
  simp only [Nat.add_zero, hl] at hst
  obtain ⟨m, rfl⟩ : ∃ m, n = m + 1 := ⟨n - 1, by omega⟩
  simp [Builtin.clear_, run_underlying ht, hv, hst]
end Go
namespace Go.Proofs.Ytkbdonecbepfnaa.Vs
open Go.RowKit Go.Maps Go.Lib
open Go.Proofs.Ytkbdonecbepfnaa.Own
set_option maxRecDepth 100000

theorem zeroB (w : World) : (zeroValue 65).run Try.prog w = .ok (.agg #[.int .i64 0, .int .i64 0, .bool false, .nilFunc]) w := by kernel_rfl
theorem zeroB_one (n : Nat) : ∀ u ∈ (Builtin.zeroCells (Value.agg #[.int .i64 0, .int .i64 0, .bool false, .nilFunc]).cells n).toList, u.oneCell' = true := by
  intro u hu
  simp only [Builtin.zeroCells, Array.toList_map, List.mem_map] at hu
  obtain ⟨i, _, rfl⟩ := hu
  have hs : (Value.agg #[.int .i64 0, .int .i64 0, .bool false, .nilFunc]).cells = #[.int .i64 0, .int .i64 0, .bool false, .nilFunc] := rfl
  rw [hs]
  have h4 : i % 4 = 0 ∨ i % 4 = 1 ∨ i % 4 = 2 ∨ i % 4 = 3 := by omega
  rcases h4 with h | h | h | h <;> simp [h] <;> rfl

/-- What Delete leaves of a row. -/
structure DelEnd (w w' : World) (base : Nat) (sv : Value) (d : Nat) (xs : List Value) (sv' : Value) : Prop where
  row : w'.ownsRow base 65 4 sv' d (xs.take (d * 4))
  keeps : Keeps (fun b => sv.ownBlock = some b) w w'
  place : sv'.ownBlock = sv.ownBlock
  cap : ∃ A c, sv' = .slice A d c

set_option maxHeartbeats 1000000 in
theorem delete_same (A : Option Addr) (m c : Nat) (w : World) (hm : m ≤ 2000) (hc : m ≤ c) (hA : A = none → c = 0) (hcm : c ≤ 9223372036854775807) :
    Calls Try.prog 45 #[.slice A m c, .int .i64 (m : Int), .int .i64 (m : Int)] w fun e w' => e = .returned (.slice A m c) ∧ w = w' := by
  cases A with
  | none =>
    obtain rfl : c = 0 := hA rfl
    obtain rfl : m = 0 := by omega
    go_enter Try.func45, Try.ntmps45
    go_wp2
    go_ret
    exact ⟨rfl, rfl⟩
  | some a =>
    go_enter Try.func45, Try.ntmps45
    go_wp2
    go_ret
    exact ⟨rfl, rfl⟩
theorem del_info : (Try.prog.info? 65).map (fun i => (i.zero, i.size, i.bytes)) = some (some (.agg #[.int .i64 0, .int .i64 0, .bool false, .nilFunc]), 4, 32) := by kernel_rfl
/-- Nothing is appended. -/
theorem append_zero (W : World) (g d cap : Nat) (cur : Array Value) (hg : W.heap[g]? = some (.cells cur 65 (0, 0))) (hd : d ≤ cap) (hs : cur.size = cap * 4) (a : Addr) (c ty : Nat) :
    (Builtin.append_ #[54, 54] ty #[.slice (some ⟨g, 0, none⟩) d cap, .slice (some a) 0 c]).run Try.prog W = .ok (.slice (some ⟨g, 0, none⟩) d cap) W := by
  obtain ⟨i0, hi, hz0, hz1, hz2⟩ := info_parts del_info
  have h := run_append_room (P := Try.prog) (w := W) 54 ty 65 i0 Try.underlying54 hi g d cap cur hg a 0 c [] (by simp) (by simp) (by simp) (by omega) (by rw [hz1, hs]; simp; omega)
  rw [h]
  simp only [Nat.add_zero, List.append_nil, List.length_nil, List.take_append_drop, Array.toArray_toList]
  rw [setRow_self W g cur _ _ hg]
theorem del_fin {w : World} {base g m d cap : Nat} {xs Z : List Value} {cur : Array Value} (hl : xs.length = m * 4) (hbg : base ≤ g) (hg : w.heap[g]? = some (.cells cur 65 (0, 0))) (hc : m ≤ cap) (hcm : cap ≤ maxLen) (hs : cur.size = cap * 4) (ht : cur.toList.take (m * 4) = xs) (hd : d < m) (hZ : Z.length = (m - d) * 4) :
    DelEnd w (w.drew.setRow g (cur.toList.take (d * 4) ++ Z ++ cur.toList.drop (d * 4 + (m - d) * 4)).toArray) base (.slice (some ⟨g, 0, none⟩) m cap) d xs (.slice (some ⟨g, 0, none⟩) d cap) := by
  have hw : (w.drew.setRow g (cur.toList.take (d * 4) ++ Z ++ cur.toList.drop (d * 4 + (m - d) * 4)).toArray).heap[g]? = some (.cells (cur.toList.take (d * 4) ++ Z ++ cur.toList.drop (d * 4 + (m - d) * 4)).toArray 65 (0, 0)) := setRow_heap _ g cur _ _ _ hg
  have hlen : cur.toList.length = cap * 4 := by simpa using hs
  refine ⟨⟨by rw [List.length_take, hl]; omega, .inr ⟨g, cap, _, rfl, hbg, hw, by omega, hcm, ?_, ?_⟩⟩, ⟨rfl, rfl, rfl, by simp [World.setRow], fun k hk hn => ?_⟩, rfl, _, _, rfl⟩
  · simp only [List.size_toArray, List.length_append, List.length_take, List.length_drop, hlen, hZ]
    omega
  · rw [List.append_assoc, List.take_append_of_le_length (by rw [List.length_take, hlen]; omega), List.take_take, Nat.min_self, ← ht, List.take_take]
    congr 1
    omega
  · exact setRow_other _ _ _ _ (fun e => hn (by rw [e]; rfl))
set_option maxHeartbeats 2000000 in
theorem delete_tail {w : World} {base g m d cap : Nat} {xs : List Value} (hown : w.ownsRow base 65 4 (.slice (some ⟨g, 0, none⟩) m cap) m xs) (hm : m ≤ 2000) (hd : d < m) :
    Calls Try.prog 45 #[.slice (some ⟨g, 0, none⟩) m cap, .int .i64 (d : Int), .int .i64 (m : Int)] w fun e w' => e = .returned (.slice (some ⟨g, 0, none⟩) d cap) ∧ DelEnd w w' base (.slice (some ⟨g, 0, none⟩) m cap) d xs (.slice (some ⟨g, 0, none⟩) d cap) := by
  obtain ⟨hl, ⟨hv, _⟩ | ⟨g', cap', cur, hv, hbg, hg, hc, hcm, hs, ht⟩⟩ := hown
  · cases hv
  cases hv
  have hz : (zeroValue 65).run Try.prog w = .ok (.agg #[.int .i64 0, .int .i64 0, .bool false, .nilFunc]) w := zeroB w
  have hclr := fun (W : World) (hW : W.heap[g]? = some (.cells cur 65 (0, 0))) (ty c : Nat) => run_clear_row (P := Try.prog) W 54 65 ty (.agg #[.int .i64 0, .int .i64 0, .bool false, .nilFunc]) 4 (m - d) Try.underlying54 zeroB rfl (zeroB_one _) g (d * 4) c cur hW (by omega) (by omega)
  have happ := fun (W : World) (hW : W.heap[g]? = some (.cells cur 65 (0, 0))) (a : Addr) (c ty : Nat) => append_zero W g d cap cur hW (by omega) hs a c ty
  have ha0 := happ w hg
  have ha1 := happ w.drew hg
  have hc0 := hclr w.drew hg
  have hne : ((d : Int) == (m : Int)) = false := beq_eq_false_iff_ne.2 (by omega)
  unfold maxLen at hcm
  have hdc : d ≤ cap := by omega
  have hcd : ¬ cap = d := by omega
  have hz4 : d * 4 + (m - d) * 4 ≤ cur.size := by omega
  have hpre : d * 4 ≤ cur.size := by omega
  have HF := Lib.hid (del_fin (Z := (Builtin.zeroCells (Value.agg #[.int .i64 0, .int .i64 0, .bool false, .nilFunc]).cells (m - d)).toList) hl hbg hg hc (by unfold maxLen; omega) hs ht hd (by rw [Array.length_toList, size_zeroCells]; rfl))
  clear hclr happ hz
  by_cases hcap : cap = m
  · subst hcap
    go_enter Try.func45, Try.ntmps45
    go_wp2
    go_region
    all_goals (
      go_wp2
      go_ret
      exact ⟨rfl, by have h9 := HF.out; rw [List.append_assoc] at h9; exact h9⟩)
  · go_enter Try.func45, Try.ntmps45
    go_wp2
    go_region
    all_goals (
      go_wp2
      go_ret
      exact ⟨rfl, by have h9 := HF.out; rw [List.append_assoc] at h9; exact h9⟩)
/-- The contract of slices.Delete from d on. -/
theorem delete_any {w : World} {base m d : Nat} {sv : Value} {xs : List Value} (hown : w.ownsRow base 65 4 sv m xs) (hm : m ≤ 2000) (hd : d ≤ m) :
    Calls Try.prog 45 #[sv, .int .i64 (d : Int), .int .i64 (m : Int)] w fun e w' => ∃ sv', e = .returned sv' ∧ DelEnd w w' base sv d xs sv' := by
  have h0 := hown
  obtain ⟨hl, ⟨rfl, rfl⟩ | ⟨g, cap, cur, rfl, hbg, hg, hc, hcm, hs, ht⟩⟩ := hown
  · obtain rfl : d = 0 := by omega
    refine (delete_same none 0 0 w (by omega) (Nat.le_refl _) (fun _ => rfl) (by omega)).mono ?_
    rintro e w' ⟨rfl, rfl⟩
    obtain rfl : xs = [] := List.eq_nil_of_length_eq_zero (by omega)
    exact ⟨_, rfl, by simpa using h0, .refl _ _, rfl, _, _, rfl⟩
  · by_cases e : d = m
    · subst e
      refine (delete_same (some ⟨g, 0, none⟩) d cap w hm hc (fun h => by cases h) (by unfold maxLen at hcm; omega)).mono ?_
      rintro e w' ⟨rfl, rfl⟩
      exact ⟨_, rfl, by rw [List.take_of_length_le (by omega)]; exact h0, .refl _ _, rfl, _, _, rfl⟩
    · refine (delete_tail h0 hm (by omega)).mono ?_
      rintro e w' ⟨rfl, h⟩
      exact ⟨_, rfl, h⟩
end Go.Proofs.Ytkbdonecbepfnaa.Vs
