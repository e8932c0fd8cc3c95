/- Conses of a list's elements that do not fail: plain mathematics. | The contracts of slices.Backward at words, and of its closure. | Between two rounds of list's loop. -/
import Derived.RangeFuncNested
import Derived.RangeFuncBound
import Derived.RangeFuncCalls
import Derived.RangeFuncLeaves
import Derived.Shelf.Abstract
import Derived.Shelf.RegionOpen
import Derived.OwnWalkIn
import Derived.TacticsInMore
import Derived.LoopNIn
import Derived.LoopIn
import Derived.Test.YtlibdhnlmekmhaaGreatDoorMg19
import Derived.Test.YtlibdhnlmekmhaaGreatDoorMg22
/- Conses of a list's elements that do not fail: plain mathematics. -/
section
namespace Go.Proofs.YtlibdhnlmekmhaaGreatDoor.Rd
set_option maxRecDepth 100000
open Go.RowKit
open Go.Proofs.YtlibdhnlmekmhaaGreatDoor.Hp Go.Proofs.YtlibdhnlmekmhaaGreatDoor.Add

/-- All conses, whether or not they fail. -/
def foldC (lim : Nat) : List Wd → Wd → Obs → Wd × Obs
  | [], w, ob => (w, ob)
  | x :: l, w, ob => foldC lim l (addO ob lim (.cons x w)).1 (addO ob lim (.cons x w)).2.2
theorem foldC_append (lim : Nat) (l m : List Wd) (w : Wd) (ob : Obs) : foldC lim (l ++ m) w ob = foldC lim m (foldC lim l w ob).1 (foldC lim l w ob).2 := by
  induction l generalizing w ob with
  | nil => rfl
  | cons x l ih => simp only [List.cons_append, foldC]; exact ih _ _
/-- There is room for n conses. -/
def Fits (ob : Obs) (lim n : Nat) : Prop := manyTo ob lim + n ≤ lim ∧ (0 < n → usedTo ob lim ≤ 1048576)
theorem Fits.add {ob : Obs} {lim n : Nat} (h : Fits ob lim (n + 1)) (x w : Wd) : (addO ob lim (.cons x w)).2.1 = 0 ∧ Fits (addO ob lim (.cons x w)).2.2 lim n := by
  have h1 := h.1
  have h2 := h.2 (Nat.succ_pos _)
  have hf : freeTo ob lim < lim := (freeTo_lt_iff _ _).2 (by omega)
  have hc : freeTo ob lim < lim ∧ usedTo ob lim + (Ob.cons x w).size ≤ 1048576 := ⟨hf, by simpa [Ob.size] using h2⟩
  unfold addO
  rw [if_pos hc]
  have hn := (freeTo_spec ob lim).2.2 hf
  have hm := manyTo_put ob lim (freeTo ob lim) (some (.cons x w)) hf
  have hu := usedTo_put ob lim (freeTo ob lim) (some (.cons x w)) hf
  rw [hn] at hm hu
  simp [sizeO, Ob.size] at hm hu
  exact ⟨rfl, by show manyTo (put ob (freeTo ob lim) (some (.cons x w))) lim + n ≤ lim; omega, fun _ => by show usedTo (put ob (freeTo ob lim) (some (.cons x w))) lim ≤ _; omega⟩
theorem add_fits {ob : Obs} {lim n : Nat} {x w : Wd} (h0 : (addO ob lim (.cons x w)).2.1 = 0) (h : Fits (addO ob lim (.cons x w)).2.2 lim n) : Fits ob lim (n + 1) := by
  unfold addO at h0 h
  split at h0
  · rename_i hc
    rw [if_pos hc] at h
    obtain ⟨hf, hs⟩ := hc
    have hn := (freeTo_spec ob lim).2.2 hf
    have hm := manyTo_put ob lim (freeTo ob lim) (some (.cons x w)) hf
    rw [hn] at hm
    simp at hm
    have h1 : manyTo (put ob (freeTo ob lim) (some (.cons x w))) lim + n ≤ lim := h.1
    exact ⟨by omega, fun _ => by omega⟩
  · simp at h0
/-- What does not fail has room. -/
theorem consR_fits {lim : Nat} : ∀ {l : List Wd} {w : Wd} {ob : Obs}, (consR lim l w ob).2.1 = 0 → manyTo ob lim ≤ lim → Fits ob lim l.length
  | [], _, _, _, hm => ⟨hm, fun h => absurd h (by simp)⟩
  | x :: l, w, ob, h, hm => by
    unfold consR at h
    split at h
    · rename_i h0
      exact add_fits h0 (consR_fits h (manyTo_le _ _))
    · rename_i h0
      exact (h0 h).elim
theorem consR_fold {lim : Nat} : ∀ {l : List Wd} {w : Wd} {ob : Obs}, Fits ob lim l.length → consR lim l w ob = ((foldC lim l w ob).1, 0, (foldC lim l w ob).2)
  | [], _, _, _ => rfl
  | x :: l, w, ob, h => by
    have := h.add x w
    unfold consR foldC
    rw [if_pos this.1]
    exact consR_fold this.2
theorem consR_err {lim : Nat} : ∀ {l : List Wd} {w : Wd} {ob : Obs}, (consR lim l w ob).2.1 = 0 ∨ (consR lim l w ob).2.1 = 7
  | [], _, _ => .inl rfl
  | x :: l, w, ob => by
    unfold consR
    split
    · exact consR_err
    · rename_i h0
      right
      unfold addO at h0 ⊢
      split
      · rename_i hc; rw [if_pos hc] at h0; exact (h0 rfl).elim
      · rfl
theorem Fits.fold {lim n : Nat} : ∀ {l : List Wd} {w : Wd} {ob : Obs}, Fits ob lim (l.length + n) → Fits (foldC lim l w ob).2 lim n
  | [], _, _, h => by simpa [foldC] using h
  | x :: l, w, ob, h => by
    have h' : Fits ob lim ((l.length + n) + 1) := by
      have e : (x :: l).length + n = l.length + n + 1 := by simp; omega
      rwa [e] at h
    exact Fits.fold (l := l) (w := (addO ob lim (.cons x w)).1) (ob := (addO ob lim (.cons x w)).2.2) (h'.add x w).2
end Go.Proofs.YtlibdhnlmekmhaaGreatDoor.Rd
end

/- The contracts of slices.Backward at words, and of its closure. -/
section
namespace Go.Proofs.YtlibdhnlmekmhaaGreatDoor.Rd
open Go.RowKit Go.Maps Go.Lib Go.Shelf
open Go.Proofs.YtlibdhnlmekmhaaGreatDoor.Own Go.Proofs.YtlibdhnlmekmhaaGreatDoor.Hp Go.Proofs.YtlibdhnlmekmhaaGreatDoor.Rep Go.Proofs.YtlibdhnlmekmhaaGreatDoor.Get Go.Proofs.YtlibdhnlmekmhaaGreatDoor.Add Go.Proofs.YtlibdhnlmekmhaaGreatDoor.Make Go.Proofs.YtlibdhnlmekmhaaGreatDoor.Strs
set_option maxRecDepth 100000
attribute [local go_sem] Oper.semAt_some

/-- The indexes that have come when k are left. -/
def dn (L k : Nat) : List Nat := ((List.range L).drop k).reverse
theorem dn_none (L : Nat) : dn L L = [] := by simp [dn]
theorem dn_succ {L k : Nat} (h : k < L) : dn L k = dn L (k + 1) ++ [k] := by
  unfold dn
  rw [List.drop_eq_getElem_cons (by simpa using h)]
  simp
theorem dn_length (L k : Nat) : (dn L k).length = L - k := by simp [dn]

/-- What a round of a loop over bindings keeps: the row of bindings and the box of the slice. -/
def KeepB (g Bs : Nat) (W W' : World) : Prop := W'.heap[g]? = W.heap[g]? ∧ W'.heap[Bs]? = W.heap[Bs]?
theorem KeepB.t {g Bs : Nat} {X Y Z : World} (h : KeepB g Bs X Y) (k : KeepB g Bs Y Z) : KeepB g Bs X Z := ⟨k.1.trans h.1, k.2.trans h.2⟩
theorem KeepB.refl (g Bs : Nat) (X : World) : KeepB g Bs X X := ⟨rfl, rfl⟩
theorem KeepB.b {g Bs : Nat} {w : World} (hg : g < w.heap.size) (hB : Bs < w.heap.size) (W : World) (l : Nat) (o o' : Obj) (hl : w.heap.size ≤ l) (_h : W.heap[l]? = some o) (_ : o.isCells = false) (_ : o.isWalk = false) : KeepB g Bs W (W.putObj l o') :=
  ⟨World.putObj_heap_other (by omega), World.putObj_heap_other (by omega)⟩

theorem backward_any (F : Fence) (n : Nat) (hf : F.fn 144) (hro : F.round = none) (a : Option Addr) (len cap : Nat) (w : World) :
    CallsIn F n Tryz.prog 144 #[.slice a len cap] w fun e w' => e = .returned (.func (.func 185) #[] #[ptr w.heap.size]) ∧ w' = w.alloc (.cells #[.slice a len cap] 36) := by
  refine callsIn_of_wp Tryz.func144 rfl hf ?_ hro
  simp only [Tryz.ntmps144, List.size_toArray, List.length_cons, List.length_nil, Nat.reduceAdd, Nat.reduceSub, Array.replicate_succ, Array.replicate_zero, List.push_toArray, List.append_toArray, List.nil_append, List.cons_append]
  gi_wp2
  go_ret
  exact ⟨rfl, rfl⟩

set_option maxHeartbeats 2000000 in
theorem back1_nil (F : Fence) (n : Nat) (hf : F.fn 185) (hro : F.round = none) (l Bs cap : Nat) (A : Option Addr) (J : List Nat → World → Prop) (W : World) (hBs : W.cell? ⟨Bs, 0, none⟩ = some (.slice A 0 cap)) (h0 : J [] W) :
    CallsIn F n Tryz.prog 185 #[.func (.yield l) #[] #[], ptr Bs] W fun e W' => (∃ v, e = .returned v) ∧ J [] W' := by
  refine callsIn_of_wp Tryz.func185 rfl hf ?_ hro
  simp only [Tryz.ntmps185, List.size_toArray, List.length_cons, List.length_nil, Nat.reduceAdd, Nat.reduceSub, Array.replicate_succ, Array.replicate_zero, List.push_toArray, List.append_toArray, List.nil_append, List.cons_append]
  gi_wp2
  gi_loopw [3] (fun i wr => i = .int .i64 (-1) ∧ J [] wr) (fun _ _ => 0)
  case atStart => exact ⟨rfl, h0⟩
  case round =>
    obtain ⟨rfl, hJs⟩ := hrel
    gi_wp2
    go_end0
    exact ⟨⟨_, rfl⟩, hJs⟩

set_option maxHeartbeats 2000000 in
theorem back1_in (F : Fence) (n : Nat) (hf : F.fn 185) (hro : F.round = none) (hn : 1 ≤ n) (l Bs g o L cap : Nat) (b : Nat → Wd) (hL : L ≤ 1000000) (J Jx : List Nat → World → Prop)
    (hY : ∀ pre (j : Nat) W, J pre W → pre.length < L → YieldAt F (n - 1) Tryz.prog l #[.int .i64 (j : Int), wd (b j)] W fun e W' =>
      (e = .returned (.bool true) ∧ J (pre ++ [j]) W' ∧ KeepB g Bs W W') ∨ (e = .returned (.bool false) ∧ Jx (pre ++ [j]) W'))
    (W : World) (hBs : W.cell? ⟨Bs, 0, none⟩ = some (.slice (some ⟨g, o, none⟩) L cap))
    (hc : ∀ W' : World, W'.heap[g]? = W.heap[g]? → ∀ j, j < L → W'.cell? ⟨g, o + j * 2, none⟩ = some (.int .i64 (b j).1) ∧ W'.cell? ⟨g, o + j * 2 + 1, none⟩ = some (.int .i64 (b j).2)) (h0 : J [] W) :
    CallsIn F n Tryz.prog 185 #[.func (.yield l) #[] #[], ptr Bs] W fun e W' => (∃ v, e = .returned v) ∧
      ((∃ ys, ys = dn L 0 ∧ J ys W') ∨ (∃ pre, Jx pre W')) := by
  refine callsIn_of_wp Tryz.func185 rfl hf ?_ hro
  simp only [Tryz.ntmps185, List.size_toArray, List.length_cons, List.length_nil, Nat.reduceAdd, Nat.reduceSub, Array.replicate_succ, Array.replicate_zero, List.push_toArray, List.append_toArray, List.nil_append, List.cons_append]
  have HC := Lib.hid hc
  clear hc
  gi_wp2
  gi_loopw [3] (fun i wr => ∃ (k : Nat) (z : Int), z + 1 = k ∧ k ≤ L ∧ i = .int .i64 z ∧ J (dn L k) wr ∧ KeepB g Bs W wr)
    (fun i _ => (intOf i + 1).toNat)
  case atStart => exact ⟨L, (L : Int) - 1, by omega, Nat.le_refl _, rfl, by rw [dn_none]; exact h0, .refl _ _ _⟩
  case round =>
    obtain ⟨k, z, hz, hk, rfl, hJs, hnx⟩ := hrel
    have hBw : wr.cell? ⟨Bs, 0, none⟩ = some (.slice (some ⟨g, o, none⟩) L cap) := by
      rw [← hBs]
      simp only [World.cell?, hnx.2]
    cases k with
    | zero =>
      obtain rfl : z = -1 := by omega
      clear hz
      gi_wp2
      go_end0
      exact ⟨⟨_, rfl⟩, .inl ⟨_, rfl, hJs⟩⟩
    | succ j =>
      obtain rfl : z = (j : Int) := by omega
      clear hz
      obtain ⟨e0, e1⟩ := HC.out wr hnx.1 j (by omega)
      obtain ⟨fn, tmps, assign, body, hy, hR⟩ := hY _ j wr hJs (by rw [dn_length]; omega)
      have hlt : j < L := by omega
      gi_wp2
      refine hR.mono ?_
      rintro e W3 (⟨rfl, hJ3, hk3⟩ | ⟨rfl, hJx3⟩)
      · gi_wp2
        go_roundw
        case rel => exact ⟨j, (j : Int) - 1, by omega, by omega, rfl, by rw [dn_succ hlt]; exact hJ3, hnx.t hk3⟩
        case measure => simp [intOf]
      · gi_wp2
        refine bodyPost_ret (results_none rfl _ _ _) rfl ?_
        exact ⟨⟨_, rfl⟩, .inr ⟨_, hJx3⟩⟩

theorem back_stops (F : Fence) (n : Nat) (hf : F.fn 185) (hro : F.round = none) (hn : 1 ≤ n) (Bs g o L cap : Nat) (b : Nat → Wd) (hL : L ≤ 1000000) (w : World) (hBl : Bs < w.heap.size) (hgl : g < w.heap.size)
    (hBs : w.cell? ⟨Bs, 0, none⟩ = some (.slice (some ⟨g, o, none⟩) L cap))
    (hc : ∀ W' : World, W'.heap[g]? = w.heap[g]? → ∀ j, j < L → W'.cell? ⟨g, o + j * 2, none⟩ = some (.int .i64 (b j).1) ∧ W'.cell? ⟨g, o + j * 2 + 1, none⟩ = some (.int .i64 (b j).2)) :
    SeqStopsK F n Tryz.prog 185 #[ptr Bs] (fun j : Nat => #[.int .i64 (j : Int), wd (b j)]) (KeepB g Bs) (fun ys => ys = dn L 0) (fun _ => True) L w := fun l J Jx W hW _ _ hY h0 => by
  refine (back1_in F n hf hro hn l Bs g o L cap b hL J Jx hY W ((hW.cell (p := ⟨Bs, 0, none⟩) hBl).trans hBs) (fun W' hW' => hc W' (hW'.trans (hW.block g hgl))) h0).mono ?_
  rintro e W' ⟨he, h | ⟨pre, h⟩⟩
  · exact ⟨he, .inl h⟩
  · exact ⟨he, .inr ⟨pre, trivial, h⟩⟩
theorem back_stops_nil (F : Fence) (n : Nat) (hf : F.fn 185) (hro : F.round = none) (Bs g cap : Nat) (A : Option Addr) (b : Nat → Wd) (w : World) (hBl : Bs < w.heap.size)
    (hBs : w.cell? ⟨Bs, 0, none⟩ = some (.slice A 0 cap)) :
    SeqStopsK F n Tryz.prog 185 #[ptr Bs] (fun j : Nat => #[.int .i64 (j : Int), wd (b j)]) (KeepB g Bs) (fun ys => ys = dn 0 0) (fun _ => True) 0 w := fun l J _ W hW _ _ _ h0 =>
  (back1_nil F n hf hro l Bs cap A J W ((hW.cell (p := ⟨Bs, 0, none⟩) hBl).trans hBs) h0).mono fun _ _ ⟨he, hj⟩ => ⟨he, .inl ⟨_, rfl, hj⟩⟩
end Go.Proofs.YtlibdhnlmekmhaaGreatDoor.Rd
end

/- Between two rounds of list's loop. -/
section
namespace Go.Proofs.YtlibdhnlmekmhaaGreatDoor.Rd
set_option maxRecDepth 100000
open Go.RowKit
open Go.Proofs.YtlibdhnlmekmhaaGreatDoor.Own Go.Proofs.YtlibdhnlmekmhaaGreatDoor.Hp Go.Proofs.YtlibdhnlmekmhaaGreatDoor.Rep Go.Proofs.YtlibdhnlmekmhaaGreatDoor.Get Go.Proofs.YtlibdhnlmekmhaaGreatDoor.Add Go.Proofs.YtlibdhnlmekmhaaGreatDoor.Make
open Go.Proofs.YtlibdhnlmekmhaaGreatDoor.Nt hiding Wd

theorem HT.tpIn {w : World} {base hp lim tp : Nat} {ob : Obs} {tb : Tb} {F : Nat → Prop} (h : HT w base hp lim tp ob tb F) : F tp := by
  obtain ⟨lh, lt, PH, PT, hH, hT, hd, hF⟩ := h.is
  exact (hF tp).2 (.inr (by unfold TOf; rw [hT.hdr]; simp))
/-- What does not change in the loop. -/
structure LF (X : Fx) (w W0 : World) (n b3 b5 g Bs : Nat) : Prop where
  fw0 : X.w0.heap.size ≤ W0.heap.size
  fw : w.heap.size ≤ W0.heap.size
  fp : X.p < W0.heap.size
  fg : X.g < W0.heap.size
  fmb : X.mb < W0.heap.size
  ftp : X.tp < W0.heap.size
  fn1 : n + 1 < W0.heap.size
  f3 : b3 < W0.heap.size
  f5 : b5 < W0.heap.size
  fgg : g < W0.heap.size
  fbs : Bs < W0.heap.size
  flow : w.heap.size ≤ b5
  fne : n ≠ b5 ∧ n + 1 ≠ b5 ∧ b3 ≠ b5 ∧ g ≠ b5 ∧ Bs ≠ b5
def Six (n b3 b5 g Bs b : Nat) : Prop := b = n ∨ b = n + 1 ∨ b = b3 ∨ b = b5 ∨ b = g ∨ b = Bs
theorem LF.six {X : Fx} {w W0 : World} {n b3 b5 g Bs b : Nat} (h : LF X w W0 n b3 b5 g Bs) (hb : Six n b3 b5 g Bs b) : b < W0.heap.size := by
  have h1 := h.fn1; have h2 := h.f3; have h3 := h.f5; have h4 := h.fgg; have h5 := h.fbs
  rcases hb with rfl | rfl | rfl | rfl | rfl | rfl <;> omega
/-- The parser, the list's boxes, the conses so far. -/
structure LM (X : Fx) (w W0 W : World) (a4 op : Nat) (rest : List Int) (tb : Tb) (F : Nat → Prop) (n b3 b5 g Bs ast : Nat) (y : Wd) (ob : Obs) : Prop where
  st : ∃ F', PS X W a4 op ⟨rest, ob, tb⟩ F' ∧ PAfter X w W F F' ∧ (∀ b, F' b → ¬ NC W0.heap.size W b) ∧ ∀ b, Six n b3 b5 g Bs b → Mine X w F' b
  low : MapLow X.tp W0.heap.size W
  box1 : Blk W n #[pptr X.p] 87
  box2 : Blk W (n + 1) #[.int .i64 0, .int .i64 0] 28
  box3 : Blk W b3 #[.int .i64 (ast : Int)] 3
  box5 : Blk W b5 #[.int .i64 y.1, .int .i64 y.2] 28
  size : W0.heap.size ≤ W.heap.size

variable {X : Fx} {w W0 W W' : World} {a4 op n b3 b5 g Bs ast : Nat} {rest : List Int} {tb : Tb} {F : Nat → Prop} {y : Wd} {ob : Obs}
theorem LM.later (h : LM X w W0 W a4 op rest tb F n b3 b5 g Bs ast y ob) (hf : LF X w W0 n b3 b5 g Bs) (hb : Below W.heap.size W W') : LM X w W0 W' a4 op rest tb F n b3 b5 g Bs ast y ob := by
  obtain ⟨F', hP, hA, hN, hM⟩ := h.st
  have htp := Nat.lt_of_lt_of_le hf.ftp h.size
  refine ⟨⟨F', hP.later hb, hA.then_below hb, fun b hF ⟨h1, o, h2, h3⟩ => hN b hF ⟨h1, o, ?_, h3⟩, hM⟩, h.low.same (hb.block _ htp), h.box1.below hb, h.box2.below hb, h.box3.below hb, h.box5.below hb, Nat.le_trans h.size hb.size⟩
  rw [← hb.block b (hP.ht.lt hF).2]
  exact h2
/-- A block that is no cells is turned. -/
theorem LM.row {row : Option Nat} (h : LM X w W0 W a4 op rest tb F n b3 b5 g Bs ast y ob) (hf : LF X w W0 n b3 b5 g Bs) (hg : W.grownBy W' row) (hr : ∀ r, row = some r → W0.heap.size ≤ r ∧ ∃ o : Obj, W.heap[r]? = some o ∧ o.isCells = false) : LM X w W0 W' a4 op rest tb F n b3 b5 g Bs ast y ob := by
  obtain ⟨F', hP, hA, hN, hM⟩ := h.st
  have hk : Keeps (fun b => row = some b) W W' := (Keeps.refl _ _).grown hg fun k e _ => e
  have hlo : ∀ b, row = some b → W0.heap.size ≤ b := fun b e => (hr b e).1
  have hne : ∀ b, b < W0.heap.size → ¬ row = some b := fun b hb e => by have := hlo b e; omega
  have hnF : ∀ b, row = some b → ¬ F' b := fun b e hF => hN b hF (hr b e)
  have hw := hf.fw
  have hw0 := hf.fw0
  refine ⟨⟨F', hP.keeps hk fun b e => ⟨hnF b e, fun e2 => hne b (by rw [e2]; exact hf.fp) e, fun e2 => hne b (by rw [e2]; exact hf.fg) e, fun e2 => hne b (by rw [e2]; exact hf.fmb) e, by have := hlo b e; omega⟩,
    ⟨hA.keeps.then hk fun b hlt e => by have := hlo b e; omega, hA.grow⟩, fun b hF ⟨h1, o, h2, h3⟩ => hN b hF ⟨h1, o, ?_, h3⟩, hM⟩,
    h.low.same (hk.block _ (Nat.lt_of_lt_of_le hf.ftp h.size) (hne _ hf.ftp)), h.box1.keeps hk (hne _ (hf.six (.inl rfl))), h.box2.keeps hk (hne _ hf.fn1), h.box3.keeps hk (hne _ hf.f3), h.box5.keeps hk (hne _ hf.f5), Nat.le_trans h.size hk.size⟩
  rw [← hk.block b (hP.ht.lt hF).2 (fun e => hnF b e hF)]
  exact h2
theorem LM.own {β : Type} (hf : LF X w W0 n b3 b5 g Bs) (Y : β → Wd) (O : β → Obs) : OwnFrom W0.heap.size (fun (pre : β) W => LM X w W0 W a4 op rest tb F n b3 b5 g Bs ast (Y pre) (O pre)) := by
  intro pre W W' row h hg hr
  exact h.row hf hg hr
/-- A cons of the form before. -/
theorem LM.cons (h : LM X w W0 W a4 op rest tb F n b3 b5 g Bs ast y ob) (hX : X.Ok) (hf : LF X w W0 n b3 b5 g Bs) (x : Wd) {k : Nat} (hfit : Fits ob X.lim (k + 1)) (s0 : St) (hast : ast = X.l.length - s0.rest.length) :
    Calls Tryz.prog 166 #[pptr X.p, wd x, wd y, .int .i64 (ast : Int)] W fun e W' => e = .returned (wd (addO ob X.lim (.cons x y)).1) ∧
      LM X w W0 W' a4 op rest tb F n b3 b5 g Bs ast y (addO ob X.lim (.cons x y)).2.2 ∧ KeepB g Bs W W' ∧ KeepsFrom W0.heap.size W W' := by
  obtain ⟨F', hP, hA, hN, hM⟩ := h.st
  refine (hP.consK (s0 := s0) hX x y ast hast).mono ?_
  rintro e W' ⟨ho, ht⟩
  unfold consG at ho
  rw [if_pos (hfit.add x y).1] at ho
  obtain ⟨a', F1, he, hP1, hA1⟩ := ho
  have hlow : MapLow X.tp W0.heap.size W' := h.low.same ht
  have haa : a' = a4 := by have h1 := hP1.n; have h2 := hP.n; simp only at h1 h2; omega
  subst haa
  have hlt : ∀ b, Six n b3 b5 g Bs b → b < W.heap.size := fun b hb => Nat.lt_of_lt_of_le (hf.six hb) h.size
  have hs : ∀ b, Six n b3 b5 g Bs b → W'.heap[b]? = W.heap[b]? := fun b hb => hA1.keeps.block b (hlt b hb) fun e => e.elim (hM b hb).f (hM b hb).p
  have hb : ∀ b cs t, Six n b3 b5 g Bs b → Blk W b cs t → Blk W' b cs t := fun b cs t hb h => by unfold Blk at h ⊢; rw [hs b hb]; exact h
  refine ⟨he, ⟨⟨_, hP1.trim hlow, ⟨(hA.trans hA1).keeps, fun b hb => (hA.trans hA1).grow b hb.1⟩, fun b hb => hb.2, fun b hb => ?_⟩, hlow, hb _ _ _ (.inl rfl) h.box1, hb _ _ _ (.inr (.inl rfl)) h.box2, hb _ _ _ (.inr (.inr (.inl rfl))) h.box3, hb _ _ _ (.inr (.inr (.inr (.inl rfl)))) h.box5, Nat.le_trans h.size hA1.keeps.size⟩,
    ⟨hs g (.inr (.inr (.inr (.inr (.inl rfl))))), hs Bs (.inr (.inr (.inr (.inr (.inr rfl)))))⟩, ?_⟩
  · have := (hM b hb).later hA1 (hlt b hb)
    exact ⟨fun e => this.f e.1, this.p, this.g, this.m, this.low⟩
  · refine ⟨hA1.keeps.size, fun k o hk ho hc => ?_⟩
    have hk1 : k < W.heap.size := (Array.getElem?_eq_some_iff.1 ho).1
    rw [hA1.keeps.block k hk1 fun e => e.elim (fun e => hN k e ⟨hk, o, ho, hc⟩) fun e => by have := hf.fp; omega]
    exact ho
/-- The box of the list so far is written. -/
theorem LM.put (h : LM X w W0 W a4 op rest tb F n b3 b5 g Bs ast y ob) (hf : LF X w W0 n b3 b5 g Bs) (v : Wd) :
    LM X w W0 ((W.setCell ⟨b5, 0, none⟩ (.int .i64 v.1)).setCell ⟨b5, 1, none⟩ (.int .i64 v.2)) a4 op rest tb F n b3 b5 g Bs ast v ob := by
  obtain ⟨F', hP, hA, hN, hM⟩ := h.st
  have hk : Keeps (fun q => q = b5) W ((W.setCell ⟨b5, 0, none⟩ (.int .i64 v.1)).setCell ⟨b5, 1, none⟩ (.int .i64 v.2)) := (keeps_set W b5 0 _).trans (keeps_set _ b5 1 _)
  have hm := hM b5 (.inr (.inr (.inr (.inl rfl))))
  have hf' := hP.put2 hm hA hf.flow (.int .i64 v.1) (.int .i64 v.2)
  have hne := hf.fne
  have htp : X.tp ≠ b5 := fun e => by
    have h1 := h.low
    have h2 := hP.ht.tpIn
    rw [e] at h2
    exact hm.f h2
  refine ⟨⟨F', hf'.1, hf'.2, fun b hF ⟨h1, o, h2, h3⟩ => hN b hF ⟨h1, o, ?_, h3⟩, hM⟩, h.low.same (hk.block _ (Nat.lt_of_lt_of_le hf.ftp h.size) htp), h.box1.keeps hk hne.1, h.box2.keeps hk hne.2.1, h.box3.keeps hk hne.2.2.1, by simpa using (h.box5.set 0 (.int .i64 v.1)).set 1 (.int .i64 v.2), Nat.le_trans h.size hk.size⟩
  rw [← hk.block b (hP.ht.lt hF).2 (fun e => hm.f (by rw [← e]; exact hF))]
  exact h2
end Go.Proofs.YtlibdhnlmekmhaaGreatDoor.Rd
end
