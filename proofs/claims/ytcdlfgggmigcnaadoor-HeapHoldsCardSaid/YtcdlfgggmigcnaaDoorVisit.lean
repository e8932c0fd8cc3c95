/- The contract of the closure that marks what a word refers to. -/
import Derived.Test.YtcdlfgggmigcnaaDoorRemove
import Derived.Test.YtcdlfgggmigcnaaDoorDfs
namespace Go.Proofs.YtcdlfgggmigcnaaDoor.Visit
set_option maxRecDepth 100000
open Go.RowKit
open Go.Proofs.YtcdlfgggmigcnaaDoor.Own Go.Proofs.YtcdlfgggmigcnaaDoor.Hp Go.Proofs.YtcdlfgggmigcnaaDoor.Rep Go.Proofs.YtcdlfgggmigcnaaDoor.Base Go.Proofs.YtcdlfgggmigcnaaDoor.Get Go.Proofs.YtcdlfgggmigcnaaDoor.Nums Go.Proofs.YtcdlfgggmigcnaaDoor.Place Go.Proofs.YtcdlfgggmigcnaaDoor.Dfs

def mcells (M : Nat) (f : Nat → Bool) : List Value := (List.range M).map fun i => .bool (f i)
def scells (vals : List Value) (st : List Nat) : List Value := st.map fun n => vals.getD n .nilIface
theorem mcells_at (M : Nat) (f : Nat → Bool) (k : Nat) (h : k < M) : (mcells M f)[k]? = some (.bool (f k)) := by
  unfold mcells
  simp [h]
theorem mcells_mark (M : Nat) (f : Nat → Bool) (n : Nat) : (mcells M f).set n (.bool true) = mcells M (markAt f n) := by
  apply List.ext_getElem?
  intro k
  by_cases hk : k < M
  · rw [mcells_at M _ k hk, List.getElem?_set]
    have hl : (mcells M f).length = M := by simp [mcells]
    by_cases e : n = k
    · subst e
      rw [if_pos rfl, if_pos (by omega)]
      simp [markAt]
    · rw [if_neg e, mcells_at M f k hk]
      have : markAt f n k = f k := by simp [markAt]; omega
      rw [this]
  · rw [List.getElem?_eq_none (by simp [mcells]; omega), List.getElem?_eq_none (by simp [mcells]; omega)]

/-- The blocks of the marking, in the order in which they were laid. -/
structure Blocks (B bh gm bm bs : Nat) : Prop where
  h : B ≤ bh
  g : bh < gm
  m : gm < bm
  s : bm < bs
/-- The state of the marking in memory. -/
structure DS (w0 : World) (hp bh gm bm bs M : Nat) (vals : List Value) (s : S) (W : World) : Prop where
  below : Below w0.heap.size w0 W
  blkh : Blk W bh #[ptr hp] 23
  blkm : Blk W bm #[.slice (some ⟨gm, 0, none⟩) M M] 56
  stack : ∃ sv, Blk W bs #[sv] 103 ∧ W.ownsRow (bs + 1) 117 1 sv s.st.length (scells vals s.st)
  marks : Row W gm (mcells M s.mark)
theorem DS.later {w0 W W' : World} {hp bh gm bm bs M : Nat} {vals : List Value} {s : S} (h : DS w0 hp bh gm bm bs M vals s W) (hb : Below W.heap.size W W') : DS w0 hp bh gm bm bs M vals s W' := by
  obtain ⟨sv, h1, h2⟩ := h.stack
  exact ⟨h.below.trans (hb.mono h.below.size), h.blkh.below hb, h.blkm.below hb, ⟨sv, h1.below hb, owns_below h2 hb⟩, h.marks.below hb⟩

theorem neq_nil (w : World) : (binOp .neq 117 .nilIface .nilIface).run Tryd.prog w = .ok (.bool false) w := by kernel_rfl
theorem neq_some (t : TypeId) (v : Value) (w : World) : (binOp .neq 117 (.iface t v) .nilIface).run Tryd.prog w = .ok (.bool true) w := by kernel_rfl

/-- A world in which the captured pointer, and the word, can be read. -/
theorem ds_box {w0 W : World} {hp bh gm bm bs M : Nat} {vals : List Value} {s : S} (h : DS w0 hp bh gm bm bs M vals s W) (x : Wd) : (W.alloc (.cells #[.int .i64 x.1, .int .i64 x.2] 28)).cell? ⟨bh, 0, none⟩ = some (ptr hp) :=
  more (h.blkh.cell 0 _ rfl) _

theorem setCell_size (w : World) (a : Addr) (v : Value) : (w.setCell a v).heap.size = w.heap.size := by simp [World.setCell]
theorem setCell_alloc_le (w : World) (a : Addr) (v : Value) (o : Obj) (b : Nat) (h : b ≤ w.heap.size) : b ≤ ((w.setCell a v).alloc o).heap.size := by
  have := setCell_size w a v
  simp
  omega
theorem one_cell_at (w : World) (v : Value) (t : TypeId) (k : Nat) (hk : w.heap.size = k) : ∀ j u, [v][j]? = some u → (w.alloc (.cells #[v] t)).cell? ((⟨k, 0, none⟩ : Addr).add j) = some u := by
  subst hk
  exact one_cell w v t

set_option maxHeartbeats 4000000 in
theorem visit_none {w0 W : World} {hp bh gm bm bs M : Nat} {vals : List Value} {s : S} (hd : DS w0 hp bh gm bm bs M vals s W) (x : Wd) (F : Reads w0 81 #[ptr hp, wd x] .nilIface) :
    Calls Tryd.prog 109 #[wd x, ptr bh, ptr bm, ptr bs] W fun e W' => e = .returned (.tuple #[]) ∧ DS w0 hp bh gm bm bs M vals s W' := by
  have hb := hd.below.alloc hd.below.size (.cells #[.int .i64 x.1, .int .i64 x.2] 28)
  have HF := Lib.hid (F.out _ hb)
  have hc := ds_box hd x
  have hn := neq_nil
  have HD := Lib.hid hd
  clear F hd hb
  go_enter Tryd.func109, Tryd.ntmps109
  go_wp2_with fail
  refine HF.out.mono ?_
  rintro e W2 ⟨rfl, hb2⟩
  have HD2 := Lib.hid (HD.out.later (((Below.refl _ _).alloc (Nat.le_refl _) _).trans (hb2.mono (by simp))))
  clear hb2
  go_wp2_with fail
  go_end0
  exact ⟨rfl, HD2.out⟩
set_option maxHeartbeats 4000000 in
theorem visit_marked {w0 W : World} {hp bh gm bm bs M n : Nat} {vals : List Value} {s : S} (hd : DS w0 hp bh gm bm bs M vals s W) (k : Int) (t : TypeId) (p : Value) (F : Reads w0 81 #[ptr hp, wd (k, (n : Int))] (.iface t p)) (hn : n < M) (hm : s.mark n = true) :
    Calls Tryd.prog 109 #[wd (k, (n : Int)), ptr bh, ptr bm, ptr bs] W fun e W' => e = .returned (.tuple #[]) ∧ DS w0 hp bh gm bm bs M vals s W' := by
  have hb := hd.below.alloc hd.below.size (.cells #[.int .i64 k, .int .i64 (n : Int)] 28)
  have HF := Lib.hid (F.out _ hb)
  have hc := ds_box hd (k, (n : Int))
  have hne := neq_some t p
  have HD := Lib.hid hd
  have HM := Lib.hid hm
  clear F hd hb hm
  go_enter Tryd.func109, Tryd.ntmps109
  go_wp2_with fail
  refine HF.out.mono ?_
  rintro e W2 ⟨rfl, hb2⟩
  have hd2 := HD.out.later (((Below.refl _ _).alloc (Nat.le_refl _) _).trans (hb2.mono (by simp)))
  have HD2 := Lib.hid hd2
  have c1 := hd2.blkm.cell 0 _ rfl
  have c2 := hd2.marks.cell n _ (mcells_at M s.mark n hn)
  rw [HM.out] at c2
  obtain ⟨c3, c4, -, -⟩ := (one_new hb2).two
  clear hb2 hd2
  go_wp2_with fail
  go_end0
  exact ⟨rfl, HD2.out⟩
set_option maxHeartbeats 8000000 in
theorem visit_new {w0 W : World} {hp bh gm bm bs M n : Nat} {vals : List Value} {s : S} (hd : DS w0 hp bh gm bm bs M vals s W) (hB : Blocks w0.heap.size bh gm bm bs) (k : Int) (t : TypeId) (p : Value) (F : Reads w0 81 #[ptr hp, wd (k, (n : Int))] (.iface t p)) (hn : n < M) (hm : s.mark n = false)
    (hv : vals.getD n .nilIface = .iface t p) (hst : s.st.length ≤ 131072) :
    Calls Tryd.prog 109 #[wd (k, (n : Int)), ptr bh, ptr bm, ptr bs] W fun e W' => e = .returned (.tuple #[]) ∧ DS w0 hp bh gm bm bs M vals (S.mk (markAt s.mark n) (s.st ++ [n])) W' := by
  obtain ⟨i0, hi, hz0, hz1, hz2⟩ := info_parts object_info
  have HI := Lib.hid hi
  have HZ0 := Lib.hid hz0
  have HZ1 := Lib.hid hz1
  have HZ2 := Lib.hid hz2
  have hb := hd.below.alloc hd.below.size (.cells #[.int .i64 k, .int .i64 (n : Int)] 28)
  have HF := Lib.hid (F.out _ hb)
  have hc := ds_box hd (k, (n : Int))
  have hne := neq_some t p
  have HD := Lib.hid hd
  have HM := Lib.hid hm
  have HB := Lib.hid hB
  have HV := Lib.hid hv
  clear F hd hb hm hi hz0 hz1 hz2 hv
  go_enter Tryd.func109, Tryd.ntmps109
  go_wp2_with fail
  refine HF.out.mono ?_
  rintro e W2 ⟨rfl, hb2⟩
  have hd2 := HD.out.later (((Below.refl _ _).alloc (Nat.le_refl _) _).trans (hb2.mono (by simp)))
  have c1 := hd2.blkm.cell 0 _ rfl
  have c2 := hd2.marks.cell n _ (mcells_at M s.mark n hn)
  have f2 := hd2.marks.free n
  rw [HM.out] at c2
  have hbox := one_new hb2
  obtain ⟨c3, c4, -, -⟩ := hbox.two
  have hgm : gm < W.heap.size := HD.out.marks.lt
  obtain ⟨sv, hsb, hown⟩ := hd2.stack
  have hd3 : Below w0.heap.size w0 (W2.setCell ⟨gm, n, none⟩ (.bool true)) := hd2.below.setCell (by have := HB.out.h; have := HB.out.g; show w0.heap.size ≤ gm; omega) _
  have hmk := hd2.marks.set n (.bool true)
  rw [mcells_mark] at hmk
  have hown3 := owns_keeps hown ((Keeps.refl (fun b => b = gm) W2).setCell ⟨gm, n, none⟩ (.bool true) fun _ => rfl) (fun b hb e => by
    have := (hown.lt b hb).1
    have h1 := HB.out.m
    have h2 := HB.out.s
    omega)
  have hsb3 := hsb.setOther ⟨gm, n, none⟩ (.bool true) (fun e => by
    have e : gm = bs := e
    have h1 := HB.out.m
    have h2 := HB.out.s
    omega)
  have hbm3 := hd2.blkm.setOther ⟨gm, n, none⟩ (.bool true) (fun e => by
    have e : gm = bm := e
    have h1 := HB.out.m
    omega)
  have hbh3 := hd2.blkh.setOther ⟨gm, n, none⟩ (.bool true) (fun e => by
    have e : gm = bh := e
    have h1 := HB.out.g
    omega)
  have H3 := Lib.hid (And.intro hd3 (And.intro hmk (And.intro hown3 (And.intro hsb3 (And.intro hbm3 hbh3)))))
  have HSV := Lib.hid (show ∀ b, sv.ownBlock = some b → bs + 1 ≤ b from fun b hb => (hown3.lt b hb).1)
  have hbslt : bs < W2.heap.size := by have := hsb3.lt; rw [setCell_size] at this; exact this
  have c5 := hsb3.cell 0 _ rfl
  have c51 := more c5
  have f5 := hsb3.free 0
  clear hd2 hown hsb hb2 hbox hd3 hmk hown3 hsb3 hbm3 hbh3
  go_wp2_with (at_builtin; go_loud (refine wpList_append_place rfl (.tmp 23) (.tmp 25) 103 rfl (bs + 1) 117 i0 .nilIface 1 16 Tryd.underlying103 HI.out HZ0.out HZ1.out HZ2.out rfl (by decide) sv s.st.length (scells vals s.st) rfl (H3.out.2.2.1.alloc _) ⟨_, 0, none⟩ 1 1 [.iface t p] rfl rfl (one_cell_at (W2.setCell ⟨gm, n, none⟩ (.bool true)) _ _ _ (setCell_size _ _ _)) (one_one rfl) (by as_aux_lemma => (unfold maxLen; omega)) (by as_aux_lemma => omega) (setCell_alloc_le _ _ _ _ _ (by as_aux_lemma => omega)) ?_))
  intro A' c' w1 hap
  have hk := keeps_push (w := W2.setCell ⟨gm, n, none⟩ (.bool true)) (o := .cells #[.iface t p] 117) hap.grown rfl rfl rfl rfl
  have hns : ∀ b, b ≤ bs → ¬ (sv.ownBlock = some b) := fun b hb e => by have := HSV.out b e; omega
  have h1 := HB.out.h
  have h2 := HB.out.g
  have h3 := HB.out.m
  have h4 := HB.out.s
  have hsb4 := H3.out.2.2.2.1.keeps hk (hns bs (by omega))
  have hpl : ∀ b, (Value.slice A' (s.st.length + 1) c').ownBlock = some b → bs + 1 ≤ b := fun b hb => (hap.row.lt b hb).1
  have hfin : DS w0 hp bh gm bm bs M vals (S.mk (markAt s.mark n) (s.st ++ [n])) (w1.setCell ⟨bs, 0, none⟩ (.slice A' (s.st.length + 1) c')) := by
    refine ⟨?_, (H3.out.2.2.2.2.2.keeps hk (hns bh (by omega))).setOther _ _ (by show bs ≠ bh; omega), (H3.out.2.2.2.2.1.keeps hk (hns bm (by omega))).setOther _ _ (by show bs ≠ bm; omega), ⟨_, hsb4.set 0 _, ?_⟩, (H3.out.2.1.keeps hk (hns gm (by omega))).setOther _ _ (by show bs ≠ gm; omega)⟩
    · exact (H3.out.1.trans (hk.below H3.out.1.size (fun b hb => by have := HSV.out b hb; omega))).setCell (by show w0.heap.size ≤ bs; omega) _
    · have hr := owns_keeps hap.row ((Keeps.refl (fun b => b = bs) w1).setCell ⟨bs, 0, none⟩ (.slice A' (s.st.length + 1) c') fun _ => rfl) (fun b hb e => by have := hpl b hb; omega)
      have e1 : scells vals (s.st ++ [n]) = scells vals s.st ++ [.iface t p] := by
        unfold scells
        rw [List.map_append, List.map_singleton, HV.out]
      rw [show (S.mk (markAt s.mark n) (s.st ++ [n])).st.length = s.st.length + 1 by simp, show (S.mk (markAt s.mark n) (s.st ++ [n])).st = s.st ++ [n] from rfl, e1]
      exact hr
  have HF3 := Lib.hid hfin
  have c6 := hsb4.cell 0 _ rfl
  have f6 := hsb4.free 0
  clear hfin hap hk hns hsb4 hpl c5 c51 f5 h1 h2 h3 h4
  go_wp2_with fail
  go_end0
  exact ⟨rfl, HF3.out⟩
end Go.Proofs.YtcdlfgggmigcnaaDoor.Visit
