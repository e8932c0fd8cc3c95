/- Variables: what they hold, and how they lie in memory. -/
import Derived.Test.YtkbdonecbepfnaaVsMap
namespace Go.Proofs.Ytkbdonecbepfnaa.Vs
open Go.RowKit Go.Maps
open Go.Proofs.Ytkbdonecbepfnaa.Own

abbrev Wd := Int × Int
/-- What a cell contains: a word, and whether it is there. -/
abbrev Cl := Wd × Bool
/-- A binding: what it recorded, its variable and its scope. -/
structure Bd where
  old : Cl
  n : Int
  k : Int
/-- Variables: which scopes have a map, the cells, the marks, the current scope, the bindings. -/
structure Vs where
  has : Int → Bool
  cells : Int → Int → Option Cl
  marks : Int → Option Int
  scope : Int
  binds : List Bd

/-- What a block is for. -/
inductive VLab | hdr | outer | marks | inner (k : Int) | cell (k n : Int) | binds | box

abbrev wdv (w : Wd) : Value := .agg #[.int .i64 w.1, .int .i64 w.2]
abbrev clv (c : Cl) : Value := .agg #[.int .i64 c.1.1, .int .i64 c.1.2, .bool c.2]
abbrev clc (c : Cl) : Array Value := #[.int .i64 c.1.1, .int .i64 c.1.2, .bool c.2]
abbrev ptr (b : Nat) : Value := .pointer (some ⟨b, 0, none⟩)
/-- The closure that a binding keeps. -/
abbrev undoer (x : Nat × Nat) : Value := .func (.func 41) #[] #[ptr x.1, ptr x.2]
def bdCells (b : Bd) (x : Nat × Nat) : List Value := [.int .i64 b.old.1.1, .int .i64 b.old.1.2, .bool b.old.2, undoer x]
abbrev bdv (b : Bd) (x : Nat × Nat) : Value := .agg #[.int .i64 b.old.1.1, .int .i64 b.old.1.2, .bool b.old.2, undoer x]
def bcells : List Bd → (Nat → Nat × Nat) → Nat → List Value
  | [], _, _ => []
  | b :: l, bx, k => bdCells b (bx k) ++ bcells l bx (k + 1)
theorem bcells_length (l : List Bd) (bx : Nat → Nat × Nat) (k : Nat) : (bcells l bx k).length = l.length * 4 := by
  induction l generalizing k with
  | nil => rfl
  | cons s l ih => simp only [bcells, List.length_append, ih, List.length_cons, bdCells, List.length_nil]; omega
theorem bcells_append (l : List Bd) (b : Bd) (bx : Nat → Nat × Nat) (k : Nat) : bcells (l ++ [b]) bx k = bcells l bx k ++ bdCells b (bx (k + l.length)) := by
  induction l generalizing k with
  | nil => simp [bcells]
  | cons x l ih => simp only [List.cons_append, bcells, ih, List.append_assoc, List.length_cons]; rw [show k + 1 + l.length = k + (l.length + 1) by omega]
theorem bcells_get (l : List Bd) (bx : Nat → Nat × Nat) (k j : Nat) : (bcells l bx k)[j]? = (l[j / 4]?).bind fun s => (bdCells s (bx (k + j / 4)))[j % 4]? := by
  induction l generalizing k j with
  | nil => simp [bcells]
  | cons s l ih =>
    rw [bcells]
    by_cases h : j < 4
    · rw [List.getElem?_append_left (by simp [bdCells]; omega), show j / 4 = 0 by omega, show j % 4 = j by omega]
      simp
    · have hl : (bdCells s (bx k)).length = 4 := rfl
      rw [List.getElem?_append_right (by rw [hl]; omega), hl, ih, show j / 4 = (j - 4) / 4 + 1 by omega, show j % 4 = (j - 4) % 4 by omega, List.getElem?_cons_succ, show k + 1 + (j - 4) / 4 = k + ((j - 4) / 4 + 1) by omega]
theorem bcells_at (l : List Bd) (bx : Nat → Nat × Nat) (i : Nat) (s : Bd) (h : l[i]? = some s) (j : Nat) (hj : j < 4) : (bcells l bx 0)[i * 4 + j]? = (bdCells s (bx i))[j]? := by
  rw [bcells_get, show (i * 4 + j) / 4 = i by omega, show (i * 4 + j) % 4 = j by omega, h]
  simp
theorem bcells_congr (l : List Bd) (ps qs : Nat → Nat × Nat) (k : Nat) (h : ∀ i, i < l.length → ps (k + i) = qs (k + i)) : bcells l ps k = bcells l qs k := by
  induction l generalizing k with
  | nil => rfl
  | cons s l ih =>
    rw [bcells, bcells, ih (k + 1) fun i hi => by rw [show k + 1 + i = k + (i + 1) by omega]; exact h (i + 1) (by simp; omega), show ps k = qs k from h 0 (by simp)]
theorem bcells_take (l : List Bd) (bx : Nat → Nat × Nat) (k d : Nat) : (bcells l bx k).take (d * 4) = bcells (l.take d) bx k := by
  induction l generalizing k d with
  | nil => simp [bcells]
  | cons s l ih =>
    cases d with
    | zero => simp [bcells]
    | succ d =>
      have hl : (bdCells s (bx k)).length = 4 := rfl
      rw [bcells, List.take_succ_cons, bcells, List.take_append, List.take_of_length_le (by rw [hl]; omega), hl, show (d + 1) * 4 - 4 = d * 4 by omega, ih]
theorem bdCells_one (s : Bd) (x : Nat × Nat) : ∀ u ∈ bdCells s x, u.oneCell' = true := by
  intro u hu
  simp [bdCells] at hu
  rcases hu with rfl | rfl | rfl | rfl <;> rfl

/-- The parts of variables: the blocks of the outer map, of the marks, of the inner maps, of the cells; the slice of bindings; their boxes. -/
structure VParts where
  cb : Nat
  mb : Nat
  im : Int → Nat
  cl : Int → Int → Nat
  bv : Value
  bx : Nat → Nat × Nat

abbrev outF (s : Vs) (P : VParts) : Int → Option Value := fun k => if s.has k = true then some (.map (some (P.im k))) else none
abbrev innF (s : Vs) (P : VParts) (k : Int) : Int → Option Value := fun n => (s.cells k n).map fun _ => ptr (P.cl k n)
abbrev mkF (s : Vs) : Int → Option Value := fun n => (s.marks n).map fun v => .int .u8 v

/-- Variables in memory. -/
structure VsIs (w : World) (base vp : Nat) (s : Vs) (lab : Nat → Option VLab) (P : VParts) : Prop where
  inb : ∀ b l, lab b = some l → base ≤ b ∧ b < w.heap.size
  hdr : lab vp = some .hdr
  blk : Blk w vp #[.map (some P.cb), .map (some P.mb), .int .i64 s.scope, P.bv] 56
  clab : lab P.cb = some .outer
  mlab : lab P.mb = some .marks
  outer : MapOf w P.cb (outF s P)
  ilab : ∀ k, s.has k = true → lab (P.im k) = some (.inner k)
  inner : ∀ k, s.has k = true → MapOf w (P.im k) (innF s P k)
  chas : ∀ k n c, s.cells k n = some c → s.has k = true
  cclab : ∀ k n c, s.cells k n = some c → lab (P.cl k n) = some (.cell k n)
  cell : ∀ k n c, s.cells k n = some c → Blk w (P.cl k n) (clc c) 62
  marks : MapOf w P.mb (mkF s)
  mok : ∀ n v, s.marks n = some v → v = 1 ∨ v = 2 ∨ v = 3
  binds : w.ownsRow base 65 4 P.bv s.binds.length (bcells s.binds P.bx 0)
  blab : ∀ g, P.bv.ownBlock = some g → lab g = some .binds
  kbox : ∀ (i : Nat) (b : Bd), s.binds[i]? = some b → lab (P.bx i).1 = some .box ∧ Blk w (P.bx i).1 #[.int .i64 b.k] 3
  nbox : ∀ (i : Nat) (b : Bd), s.binds[i]? = some b → lab (P.bx i).2 = some .box ∧ Blk w (P.bx i).2 #[.int .i64 b.n] 3
  bok : ∀ b ∈ s.binds, (0 ≤ b.n ∧ b.n < 16384) ∧ (0 ≤ b.k ∧ b.k ≤ 65536)
  sok : 0 ≤ s.scope ∧ s.scope ≤ 65536
  many : s.binds.length ≤ 2000

/-- The cells of bindings to default values are there. -/
def Good (s : Vs) : Prop := ∀ b ∈ s.binds, b.k = 0 → (s.cells 0 b.n).isSome = true

/-- The blocks that a call may write: the variables' own, but for the boxes of bindings, which two may share. -/
def VOf (lab : Nat → Option VLab) (b : Nat) : Prop := lab b ≠ none ∧ lab b ≠ some .box

theorem VsIs.keeps {F : Nat → Prop} {w w' : World} {base vp : Nat} {s : Vs} {lab : Nat → Option VLab} {P : VParts} (h : VsIs w base vp s lab P) (hk : Keeps F w w') (hF : ∀ b, F b → lab b = none) : VsIs w' base vp s lab P := by
  have hn : ∀ g k, lab g = some k → ¬ F g := fun g k hg hf => by rw [hF g hf] at hg; cases hg
  exact { h with
    inb := fun b l hb => ⟨(h.inb b l hb).1, Nat.lt_of_lt_of_le (h.inb b l hb).2 hk.size⟩
    blk := h.blk.keeps hk (hn _ _ h.hdr)
    outer := h.outer.keeps hk (hn _ _ h.clab)
    inner := fun k hh => (h.inner k hh).keeps hk (hn _ _ (h.ilab k hh))
    cell := fun k n c hc => (h.cell k n c hc).keeps hk (hn _ _ (h.cclab k n c hc))
    marks := h.marks.keeps hk (hn _ _ h.mlab)
    binds := owns_keeps h.binds hk fun b hb => hn _ _ (h.blab b hb)
    kbox := fun i b hb => ⟨(h.kbox i b hb).1, (h.kbox i b hb).2.keeps hk (hn _ _ (h.kbox i b hb).1)⟩
    nbox := fun i b hb => ⟨(h.nbox i b hb).1, (h.nbox i b hb).2.keeps hk (hn _ _ (h.nbox i b hb).1)⟩ }
theorem VsIs.below {w w' : World} {base vp : Nat} {s : Vs} {lab : Nat → Option VLab} {P : VParts} (h : VsIs w base vp s lab P) (hk : Below w.heap.size w w') : VsIs w' base vp s lab P :=
  h.keeps (F := fun _ => False) (.of_below hk) fun _ hf => hf.elim
theorem VsIs.alloc {w : World} {base vp : Nat} {s : Vs} {lab : Nat → Option VLab} {P : VParts} (h : VsIs w base vp s lab P) (o : Obj) : VsIs (w.alloc o) base vp s lab P :=
  h.below ((Below.refl _ _).alloc (Nat.le_refl _) o)
theorem VsIs.drewN {w : World} {base vp : Nat} {s : Vs} {lab : Nat → Option VLab} {P : VParts} (h : VsIs w base vp s lab P) (q : Nat) : VsIs (w.drewN q) base vp s lab P := h.below (below_drewN (Below.refl _ _) q)
theorem VsIs.fresh {w : World} {base vp b : Nat} {s : Vs} {lab : Nat → Option VLab} {P : VParts} (h : VsIs w base vp s lab P) (hb : w.heap.size ≤ b) : lab b = Option.none := by
  cases hl : lab b with
  | none => rfl
  | some l => have := (h.inb b l hl).2; omega

/-- What a call leaves of memory: it writes blocks of the variables, and lays new ones. -/
structure VAfter (w w' : World) (lab lab' : Nat → Option VLab) : Prop where
  keeps : Keeps (VOf lab) w w'
  grow : ∀ b, VOf lab' b → VOf lab b ∨ w.heap.size ≤ b
theorem VAfter.refl (w : World) (lab : Nat → Option VLab) : VAfter w w lab lab := ⟨.refl _ _, fun _ h => .inl h⟩
theorem VAfter.below {w w' : World} {lab : Nat → Option VLab} (h : Below w.heap.size w w') : VAfter w w' lab lab := ⟨.of_below h, fun _ h => .inl h⟩
theorem VAfter.trans {w w1 w2 : World} {lab lab1 lab2 : Nat → Option VLab} (h : VAfter w w1 lab lab1) (k : VAfter w1 w2 lab1 lab2) : VAfter w w2 lab lab2 := by
  refine ⟨h.keeps.then k.keeps fun b hb hf => ?_, fun b hb => ?_⟩
  · rcases h.grow b hf with e | e
    · exact e
    · omega
  · rcases k.grow b hb with e | e
    · exact h.grow b e
    · exact .inr (Nat.le_trans h.keeps.size e)
theorem VAfter.bel {w w' : World} {base vp : Nat} {s : Vs} {lab lab' : Nat → Option VLab} {P : VParts} (h : VsIs w base vp s lab P) (hb : base ≤ w.heap.size) (ha : VAfter w w' lab lab') : Below base w w' :=
  ha.keeps.below hb fun k hk => by
    cases hh : lab k with
    | none => exact absurd hh hk.1
    | some l => exact (h.inb k l hh).1
/-- Behind w the variables are s. -/
def VsOk (w w' : World) (base vp : Nat) (s : Vs) (lab : Nat → Option VLab) : Prop := ∃ lab' P', VsIs w' base vp s lab' P' ∧ VAfter w w' lab lab'
theorem VsOk.of {w w' : World} {base vp : Nat} {s : Vs} {lab : Nat → Option VLab} {P : VParts} (h : VsIs w base vp s lab P) (hb : Below w.heap.size w w') : VsOk w w' base vp s lab := ⟨lab, P, h.below hb, .below hb⟩
theorem VsOk.first {w w1 w2 : World} {base vp : Nat} {s : Vs} {lab : Nat → Option VLab} (hb : Below w.heap.size w w1) (h : VsOk w1 w2 base vp s lab) : VsOk w w2 base vp s lab := by
  obtain ⟨lab', P', h1, h2⟩ := h
  exact ⟨lab', P', h1, (VAfter.below hb).trans h2⟩
theorem VsOk.last {w w1 w2 : World} {base vp : Nat} {s : Vs} {lab : Nat → Option VLab} (h : VsOk w w1 base vp s lab) (hb : Below w1.heap.size w1 w2) : VsOk w w2 base vp s lab := by
  obtain ⟨lab', P', h1, h2⟩ := h
  exact ⟨lab', P', h1.below hb, h2.trans (.below hb)⟩
end Go.Proofs.Ytkbdonecbepfnaa.Vs
