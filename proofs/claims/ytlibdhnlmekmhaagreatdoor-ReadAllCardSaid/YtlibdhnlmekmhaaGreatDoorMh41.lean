/- The contract of the closure that marks what a word refers to. -/
import Derived.Test.YtlibdhnlmekmhaaGreatDoorMh39
import Derived.Test.YtlibdhnlmekmhaaGreatDoorMh40
namespace Go.Proofs.YtlibdhnlmekmhaaGreatDoor.Visit
set_option maxRecDepth 100000
open Go.RowKit
open Go.Proofs.YtlibdhnlmekmhaaGreatDoor.Own Go.Proofs.YtlibdhnlmekmhaaGreatDoor.Hp Go.Proofs.YtlibdhnlmekmhaaGreatDoor.Rep Go.Proofs.YtlibdhnlmekmhaaGreatDoor.Base Go.Proofs.YtlibdhnlmekmhaaGreatDoor.Get Go.Proofs.YtlibdhnlmekmhaaGreatDoor.Nums Go.Proofs.YtlibdhnlmekmhaaGreatDoor.Place Go.Proofs.YtlibdhnlmekmhaaGreatDoor.Dfs

def mcells (M : Nat) (f : Nat → Bool) : List Value := (List.range M).map fun i => .bool (f i)
def scells (vals : List Value) (st : List Nat) : List Value := st.map fun n => vals.getD n .nilIface
theorem mcells_at (M : Nat) (f : Nat → Bool) (k : Nat) (h : k < M) : (mcells M f)[k]? = some (.bool (f k)) := by
  unfold mcells
  simp [h]
theorem mcells_mark (M : Nat) (f : Nat → Bool) (n : Nat) : (mcells M f).set n (.bool true) = mcells M (markAt f n) := by
  apply List.ext_getElem?
  intro k
  by_cases hk : k < M
  · rw [mcells_at M _ k hk, List.getElem?_set]
    have hl : (mcells M f).length = M := by simp [mcells]
    by_cases e : n = k
    · subst e
      rw [if_pos rfl, if_pos (by omega)]
      simp [markAt]
    · rw [if_neg e, mcells_at M f k hk]
      have : markAt f n k = f k := by simp [markAt]; omega
      rw [this]
  · rw [List.getElem?_eq_none (by simp [mcells]; omega), List.getElem?_eq_none (by simp [mcells]; omega)]

/-- The blocks of the marking, in the order in which they were laid. -/
structure Blocks (B bh gm bm bs : Nat) : Prop where
  h : B ≤ bh
  g : bh < gm
  m : gm < bm
  s : bm < bs
/-- The state of the marking in memory. -/
structure DS (w0 : World) (hp bh gm bm bs M : Nat) (vals : List Value) (s : S) (W : World) : Prop where
  below : Below w0.heap.size w0 W
  blkh : Blk W bh #[ptr hp] 23
  blkm : Blk W bm #[.slice (some ⟨gm, 0, none⟩) M M] 51
  stack : ∃ sv, Blk W bs #[sv] 102 ∧ W.ownsRow (bs + 1) 148 1 sv s.st.length (scells vals s.st)
  marks : Row W gm (mcells M s.mark)
theorem DS.later {w0 W W' : World} {hp bh gm bm bs M : Nat} {vals : List Value} {s : S} (h : DS w0 hp bh gm bm bs M vals s W) (hb : Below W.heap.size W W') : DS w0 hp bh gm bm bs M vals s W' := by
  obtain ⟨sv, h1, h2⟩ := h.stack
  exact ⟨h.below.trans (hb.mono h.below.size), h.blkh.below hb, h.blkm.below hb, ⟨sv, h1.below hb, owns_below h2 hb⟩, h.marks.below hb⟩

theorem neq_nil (w : World) : (binOp .neq 148 .nilIface .nilIface).run Tryz.prog w = .ok (.bool false) w := by kernel_rfl
theorem neq_some (t : TypeId) (v : Value) (w : World) : (binOp .neq 148 (.iface t v) .nilIface).run Tryz.prog w = .ok (.bool true) w := by kernel_rfl

/-- A world in which the captured pointer, and the word, can be read. -/
theorem ds_box {w0 W : World} {hp bh gm bm bs M : Nat} {vals : List Value} {s : S} (h : DS w0 hp bh gm bm bs M vals s W) (x : Wd) : (W.alloc (.cells #[.int .i64 x.1, .int .i64 x.2] 28)).cell? ⟨bh, 0, none⟩ = some (ptr hp) :=
  more (h.blkh.cell 0 _ rfl) _

theorem setCell_size (w : World) (a : Addr) (v : Value) : (w.setCell a v).heap.size = w.heap.size := by simp [World.setCell]
theorem setCell_alloc_le (w : World) (a : Addr) (v : Value) (o : Obj) (b : Nat) (h : b ≤ w.heap.size) : b ≤ ((w.setCell a v).alloc o).heap.size := by
  have := setCell_size w a v
  simp
  omega
theorem one_cell_at (w : World) (v : Value) (t : TypeId) (k : Nat) (hk : w.heap.size = k) : ∀ j u, [v][j]? = some u → (w.alloc (.cells #[v] t)).cell? ((⟨k, 0, none⟩ : Addr).add j) = some u := by
  subst hk
  exact one_cell w v t

end Go.Proofs.YtlibdhnlmekmhaaGreatDoor.Visit
