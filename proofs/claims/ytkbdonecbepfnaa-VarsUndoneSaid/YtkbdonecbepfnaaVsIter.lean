/- The contracts of slices.Backward at bindings, and of its closure. -/
import Derived.Test.YtkbdonecbepfnaaVsDel
import Derived.RangeFuncNested
import Derived.RangeFuncBound
import Derived.RangeFuncCalls
import Derived.RangeFuncLeaves
import Derived.Shelf.Abstract
import Derived.Shelf.RegionOpen
import Derived.OwnWalkIn
import Derived.TacticsInMore
import Derived.LoopNIn
import Derived.LoopIn
namespace Go.Proofs.Ytkbdonecbepfnaa.Vs
open Go.RowKit Go.Maps Go.Lib Go.Shelf
open Go.Proofs.Ytkbdonecbepfnaa.Own
set_option maxRecDepth 100000
attribute [local go_sem] Oper.semAt_some

/-- The indexes that have come when k are left. -/
def dn (L k : Nat) : List Nat := ((List.range L).drop k).reverse
theorem dn_none (L : Nat) : dn L L = [] := by simp [dn]
theorem dn_succ {L k : Nat} (h : k < L) : dn L k = dn L (k + 1) ++ [k] := by
  unfold dn
  rw [List.drop_eq_getElem_cons (by simpa using h)]
  simp
theorem dn_length (L k : Nat) : (dn L k).length = L - k := by simp [dn]

/-- What a round of a loop over bindings keeps: the row of bindings and the box of the slice. -/
def KeepB (g Bs : Nat) (W W' : World) : Prop := W'.heap[g]? = W.heap[g]? ∧ W'.heap[Bs]? = W.heap[Bs]?
theorem KeepB.t {g Bs : Nat} {X Y Z : World} (h : KeepB g Bs X Y) (k : KeepB g Bs Y Z) : KeepB g Bs X Z := ⟨k.1.trans h.1, k.2.trans h.2⟩
theorem KeepB.refl (g Bs : Nat) (X : World) : KeepB g Bs X X := ⟨rfl, rfl⟩
theorem KeepB.b {g Bs : Nat} {w : World} (hg : g < w.heap.size) (hB : Bs < w.heap.size) (W : World) (l : Nat) (o o' : Obj) (hl : w.heap.size ≤ l) (_h : W.heap[l]? = some o) (_ : o.isCells = false) (_ : o.isWalk = false) : KeepB g Bs W (W.putObj l o') :=
  ⟨World.putObj_heap_other (by omega), World.putObj_heap_other (by omega)⟩

theorem backward_any (F : Fence) (n : Nat) (hf : F.fn 44) (hro : F.round = none) (a : Option Addr) (len cap : Nat) (w : World) :
    CallsIn F n Try.prog 44 #[.slice a len cap] w fun e w' => e = .returned (.func (.func 56) #[] #[ptr w.heap.size]) ∧ w' = w.alloc (.cells #[.slice a len cap] 54) := by
  refine callsIn_of_wp Try.func44 rfl hf ?_ hro
  simp only [Try.ntmps44, List.size_toArray, List.length_cons, List.length_nil, Nat.reduceAdd, Nat.reduceSub, Array.replicate_succ, Array.replicate_zero, List.push_toArray, List.append_toArray, List.nil_append, List.cons_append]
  gi_wp2
  go_ret
  exact ⟨rfl, rfl⟩

set_option maxHeartbeats 2000000 in
theorem back1_nil (F : Fence) (n : Nat) (hf : F.fn 56) (hro : F.round = none) (l Bs cap : Nat) (A : Option Addr) (J : List Nat → World → Prop) (W : World) (hBs : W.cell? ⟨Bs, 0, none⟩ = some (.slice A 0 cap)) (h0 : J [] W) :
    CallsIn F n Try.prog 56 #[.func (.yield l) #[] #[], ptr Bs] W fun e W' => (∃ v, e = .returned v) ∧ J [] W' := by
  refine callsIn_of_wp Try.func56 rfl hf ?_ hro
  simp only [Try.ntmps56, List.size_toArray, List.length_cons, List.length_nil, Nat.reduceAdd, Nat.reduceSub, Array.replicate_succ, Array.replicate_zero, List.push_toArray, List.append_toArray, List.nil_append, List.cons_append]
  gi_wp2
  gi_loopw [3] (fun i wr => i = .int .i64 (-1) ∧ J [] wr) (fun _ _ => 0)
  case atStart => exact ⟨rfl, h0⟩
  case round =>
    obtain ⟨rfl, hJs⟩ := hrel
    gi_wp2
    go_end0
    exact ⟨⟨_, rfl⟩, hJs⟩

set_option maxHeartbeats 2000000 in
theorem back1_in (F : Fence) (n : Nat) (hf : F.fn 56) (hro : F.round = none) (hn : 1 ≤ n) (l Bs g o L cap : Nat) (b : Nat → Bd) (x : Nat → Nat × Nat) (hL : L ≤ 2000) (J Jx : List Nat → World → Prop)
    (hY : ∀ pre (j : Nat) W, J pre W → pre.length < L → YieldAt F (n - 1) Try.prog l #[.int .i64 (j : Int), bdv (b j) (x j)] W fun e W' =>
      (e = .returned (.bool true) ∧ J (pre ++ [j]) W' ∧ KeepB g Bs W W') ∨ (e = .returned (.bool false) ∧ Jx (pre ++ [j]) W'))
    (W : World) (hBs : W.cell? ⟨Bs, 0, none⟩ = some (.slice (some ⟨g, o, none⟩) L cap))
    (hc : ∀ W' : World, W'.heap[g]? = W.heap[g]? → ∀ j, j < L → W'.cell? ⟨g, o + j * 4, none⟩ = some (.int .i64 (b j).old.1.1) ∧ W'.cell? ⟨g, o + j * 4 + 1, none⟩ = some (.int .i64 (b j).old.1.2) ∧ W'.cell? ⟨g, o + j * 4 + 2, none⟩ = some (.bool (b j).old.2) ∧ W'.cell? ⟨g, o + j * 4 + 3, none⟩ = some (undoer (x j))) (h0 : J [] W) :
    CallsIn F n Try.prog 56 #[.func (.yield l) #[] #[], ptr Bs] W fun e W' => (∃ v, e = .returned v) ∧
      ((∃ ys, ys = dn L 0 ∧ J ys W') ∨ (∃ pre, Jx pre W')) := by
  refine callsIn_of_wp Try.func56 rfl hf ?_ hro
  simp only [Try.ntmps56, List.size_toArray, List.length_cons, List.length_nil, Nat.reduceAdd, Nat.reduceSub, Array.replicate_succ, Array.replicate_zero, List.push_toArray, List.append_toArray, List.nil_append, List.cons_append]
  have HC := Lib.hid hc
  clear hc
  gi_wp2
  gi_loopw [3] (fun i wr => ∃ (k : Nat) (z : Int), z + 1 = k ∧ k ≤ L ∧ i = .int .i64 z ∧ J (dn L k) wr ∧ KeepB g Bs W wr)
    (fun i _ => (intOf i + 1).toNat)
  case atStart => exact ⟨L, (L : Int) - 1, by omega, Nat.le_refl _, rfl, by rw [dn_none]; exact h0, .refl _ _ _⟩
  case round =>
    obtain ⟨k, z, hz, hk, rfl, hJs, hnx⟩ := hrel
    have hBw : wr.cell? ⟨Bs, 0, none⟩ = some (.slice (some ⟨g, o, none⟩) L cap) := by
      rw [← hBs]
      simp only [World.cell?, hnx.2]
    cases k with
    | zero =>
      obtain rfl : z = -1 := by omega
      clear hz
      gi_wp2
      go_end0
      exact ⟨⟨_, rfl⟩, .inl ⟨_, rfl, hJs⟩⟩
    | succ j =>
      obtain rfl : z = (j : Int) := by omega
      clear hz
      obtain ⟨e0, e1, e2, e3⟩ := HC.out wr hnx.1 j (by omega)
      obtain ⟨fn, tmps, assign, body, hy, hR⟩ := hY _ j wr hJs (by rw [dn_length]; omega)
      have hlt : j < L := by omega
      gi_wp2
      refine hR.mono ?_
      rintro e W3 (⟨rfl, hJ3, hk3⟩ | ⟨rfl, hJx3⟩)
      · gi_wp2
        go_roundw
        case rel => exact ⟨j, (j : Int) - 1, by omega, by omega, rfl, by rw [dn_succ hlt]; exact hJ3, hnx.t hk3⟩
        case measure => simp [intOf]
      · gi_wp2
        refine bodyPost_ret (results_none rfl _ _ _) rfl ?_
        exact ⟨⟨_, rfl⟩, .inr ⟨_, hJx3⟩⟩

theorem back_stops (F : Fence) (n : Nat) (hf : F.fn 56) (hro : F.round = none) (hn : 1 ≤ n) (Bs g o L cap : Nat) (b : Nat → Bd) (x : Nat → Nat × Nat) (hL : L ≤ 2000) (w : World) (hBl : Bs < w.heap.size) (hgl : g < w.heap.size)
    (hBs : w.cell? ⟨Bs, 0, none⟩ = some (.slice (some ⟨g, o, none⟩) L cap))
    (hc : ∀ W' : World, W'.heap[g]? = w.heap[g]? → ∀ j, j < L → W'.cell? ⟨g, o + j * 4, none⟩ = some (.int .i64 (b j).old.1.1) ∧ W'.cell? ⟨g, o + j * 4 + 1, none⟩ = some (.int .i64 (b j).old.1.2) ∧ W'.cell? ⟨g, o + j * 4 + 2, none⟩ = some (.bool (b j).old.2) ∧ W'.cell? ⟨g, o + j * 4 + 3, none⟩ = some (undoer (x j))) :
    SeqStopsK F n Try.prog 56 #[ptr Bs] (fun j : Nat => #[.int .i64 (j : Int), bdv (b j) (x j)]) (KeepB g Bs) (fun ys => ys = dn L 0) (fun _ => True) L w := fun l J Jx W hW _ _ hY h0 => by
  refine (back1_in F n hf hro hn l Bs g o L cap b x hL J Jx hY W ((hW.cell (p := ⟨Bs, 0, none⟩) hBl).trans hBs) (fun W' hW' => hc W' (hW'.trans (hW.block g hgl))) h0).mono ?_
  rintro e W' ⟨he, h | ⟨pre, h⟩⟩
  · exact ⟨he, .inl h⟩
  · exact ⟨he, .inr ⟨pre, trivial, h⟩⟩
theorem back_stops_nil (F : Fence) (n : Nat) (hf : F.fn 56) (hro : F.round = none) (Bs g cap : Nat) (A : Option Addr) (b : Nat → Bd) (x : Nat → Nat × Nat) (w : World) (hBl : Bs < w.heap.size)
    (hBs : w.cell? ⟨Bs, 0, none⟩ = some (.slice A 0 cap)) :
    SeqStopsK F n Try.prog 56 #[ptr Bs] (fun j : Nat => #[.int .i64 (j : Int), bdv (b j) (x j)]) (KeepB g Bs) (fun ys => ys = dn 0 0) (fun _ => True) 0 w := fun l J _ W hW _ _ _ h0 =>
  (back1_nil F n hf hro l Bs cap A J W ((hW.cell (p := ⟨Bs, 0, none⟩) hBl).trans hBs) h0).mono fun _ _ ⟨he, hj⟩ => ⟨he, .inl ⟨_, rfl, hj⟩⟩
end Go.Proofs.Ytkbdonecbepfnaa.Vs
