/- The contract of Unbind. -/
import Derived.Test.YtkbdonecbepfnaaVsUndo
namespace Go.Proofs.Ytkbdonecbepfnaa.Vs
open Go.RowKit Go.Maps Go.Lib Go.Shelf
open Go.Proofs.Ytkbdonecbepfnaa.Own
set_option maxRecDepth 100000

def undoL (s : Vs) (l : List Bd) : Vs := l.foldl undoO s
theorem undoL_snoc (s : Vs) (l : List Bd) (b : Bd) : undoL s (l ++ [b]) = undoO (undoL s l) b := by simp [undoL]
theorem undoO_binds (s : Vs) (b : Bd) : (undoO s b).binds = s.binds := by
  unfold undoO
  split <;> rfl
theorem undoL_binds (s : Vs) (l : List Bd) : (undoL s l).binds = s.binds := by
  induction l generalizing s with
  | nil => rfl
  | cons b l ih => rw [show undoL s (b :: l) = undoL (undoO s b) l from rfl, ih, undoO_binds]
theorem undoO_some (s : Vs) (b : Bd) (k n : Int) (h : (s.cells k n).isSome = true) : ((undoO s b).cells k n).isSome = true := by
  unfold undoO
  split
  · simp only [putC]
    split
    · rfl
    · exact h
  · exact h
theorem undoL_some (s : Vs) (l : List Bd) (k n : Int) (h : (s.cells k n).isSome = true) : ((undoL s l).cells k n).isSome = true := by
  induction l generalizing s with
  | nil => exact h
  | cons b l ih => exact ih (undoO s b) (undoO_some s b k n h)

/-- The bindings behind the first d ones, by an index that is in the list always. -/
def ix (d L j : Nat) : Nat := if j < L then d + j else d
def bdAt (l : List Bd) (i : Nat) : Bd := (l[i]?).getD ⟨((0, 0), false), 0, 0⟩
theorem bdAt_some {l : List Bd} {i : Nat} (h : i < l.length) : l[i]? = some (bdAt l i) := by
  unfold bdAt
  rw [List.getElem?_eq_getElem h]
  rfl
theorem dn_binds (l : List Bd) (d : Nat) : (dn (l.length - d) 0).map (fun j => bdAt l (ix d (l.length - d) j)) = (l.drop d).reverse := by
  unfold dn
  rw [List.drop_zero, List.map_reverse]
  congr 1
  apply List.ext_getElem
  · simp
  · intro i h1 h2
    simp only [List.length_drop] at h2
    have h3 : d + i < l.length := by omega
    simp [bdAt, ix, h2, h3]

def unbindO (s : Vs) (depth : Int) : Int × Vs :=
  if 0 ≤ depth ∧ depth ≤ s.binds.length then
    (0, ⟨(undoL s (s.binds.drop depth.toNat).reverse).has, (undoL s (s.binds.drop depth.toNat).reverse).cells, (undoL s (s.binds.drop depth.toNat).reverse).marks, (undoL s (s.binds.drop depth.toNat).reverse).scope, s.binds.take depth.toNat⟩)
  else (3, s)

/-- The bindings are cut off. -/
theorem VsIs.cut {w w1 w' : World} {base vp d : Nat} {s : Vs} {lab : Nat → Option VLab} {P : VParts} {sv' : Value} (h : VsIs w base vp s lab P) (hd : d ≤ s.binds.length) (hE : DelEnd w w1 base P.bv d (bcells s.binds P.bx 0) sv') (hk : Keeps (fun b => b = vp) w1 w')
    (hb : Blk w' vp #[.map (some P.cb), .map (some P.mb), .int .i64 s.scope, sv'] 56) :
    VsIs w' base vp ⟨s.has, s.cells, s.marks, s.scope, s.binds.take d⟩ lab ⟨P.cb, P.mb, P.im, P.cl, sv', P.bx⟩ ∧ Keeps (VOf lab) w w' := by
  have hK : Keeps (fun b => b = vp ∨ P.bv.ownBlock = some b) w w' := (hE.keeps.mono fun b _ e => .inr e).then hk fun b _ e => .inl e
  have hF : ∀ g l, lab g = some l → l ≠ .hdr → l ≠ .binds → ¬ (g = vp ∨ P.bv.ownBlock = some g) := fun g l hg h1 h2 e => by
    rcases e with e | e
    · rw [e, h.hdr] at hg
      cases hg
      exact h1 rfl
    · rw [h.blab g e] at hg
      cases hg
      exact h2 rfl
  have hget : ∀ (i : Nat) (b : Bd), (s.binds.take d)[i]? = some b → s.binds[i]? = some b := fun i b hb => by
    rw [List.getElem?_take] at hb
    split at hb
    · exact hb
    · cases hb
  refine ⟨{ h with
    inb := fun b l hb => ⟨(h.inb b l hb).1, Nat.lt_of_lt_of_le (h.inb b l hb).2 hK.size⟩
    blk := hb
    outer := h.outer.keeps hK (hF _ _ h.clab (by simp) (by simp))
    inner := fun j hj => (h.inner j hj).keeps hK (hF _ _ (h.ilab j hj) (by simp) (by simp))
    cell := fun j m c hc => (h.cell j m c hc).keeps hK (hF _ _ (h.cclab j m c hc) (by simp) (by simp))
    marks := h.marks.keeps hK (hF _ _ h.mlab (by simp) (by simp))
    binds := ?_
    blab := fun g hg => h.blab g (by rw [← hE.place]; exact hg)
    kbox := fun i b hb => ⟨(h.kbox i b (hget i b hb)).1, (h.kbox i b (hget i b hb)).2.keeps hK (hF _ _ (h.kbox i b (hget i b hb)).1 (by simp) (by simp))⟩
    nbox := fun i b hb => ⟨(h.nbox i b (hget i b hb)).1, (h.nbox i b (hget i b hb)).2.keeps hK (hF _ _ (h.nbox i b (hget i b hb)).1 (by simp) (by simp))⟩
    bok := fun b hb => h.bok b (List.mem_of_mem_take hb)
    many := by have := h.many; simp; omega }, hK.mono fun b _ e => ?_⟩
  · have hr := hE.row
    rw [bcells_take] at hr
    show World.ownsRow w' base _ 4 sv' (s.binds.take d).length (bcells (s.binds.take d) P.bx 0)
    rw [List.length_take, Nat.min_eq_left hd]
    refine owns_keeps hr hk fun g hg e => ?_
    subst e
    have := h.blab g (by rw [← hE.place]; exact hg)
    rw [h.hdr] at this
    cases this
  · unfold VOf
    rcases e with e | e
    · rw [e, h.hdr]
      simp
    · rw [h.blab b e]
      simp

/-- The cells of the bindings behind the first d ones. -/
theorem tail_cells {w : World} {base g d cap : Nat} {l : List Bd} {bx : Nat → Nat × Nat} (hown : w.ownsRow base 65 4 (.slice (some ⟨g, 0, none⟩) l.length cap) l.length (bcells l bx 0)) (hd : d < l.length) :
    g < w.heap.size ∧ ∀ W' : World, W'.heap[g]? = w.heap[g]? → ∀ j, j < l.length - d → W'.cell? ⟨g, d * 4 + j * 4, none⟩ = some (.int .i64 (bdAt l (ix d (l.length - d) j)).old.1.1) ∧ W'.cell? ⟨g, d * 4 + j * 4 + 1, none⟩ = some (.int .i64 (bdAt l (ix d (l.length - d) j)).old.1.2) ∧ W'.cell? ⟨g, d * 4 + j * 4 + 2, none⟩ = some (.bool (bdAt l (ix d (l.length - d) j)).old.2) ∧ W'.cell? ⟨g, d * 4 + j * 4 + 3, none⟩ = some (undoer (bx (ix d (l.length - d) j))) := by
  have hr := Row.of_owns hown
  refine ⟨hr.lt, fun W' hW' j hj => ?_⟩
  have hr' : Row W' g (bcells l bx 0) := by
    obtain ⟨cur, t, h1, h2⟩ := hr
    exact ⟨cur, t, hW'.trans h1, h2⟩
  have hi : ix d (l.length - d) j = d + j := if_pos hj
  have hb := bdAt_some (l := l) (i := d + j) (by omega)
  rw [hi]
  have e : ∀ t, d * 4 + j * 4 + t = (d + j) * 4 + t := fun t => by omega
  refine ⟨?_, ?_, ?_, ?_⟩
  · have := hr'.cell ((d + j) * 4 + 0) _ ((bcells_at l bx (d + j) _ hb 0 (by omega)).trans rfl)
    rwa [← e 0] at this
  · have := hr'.cell ((d + j) * 4 + 1) _ ((bcells_at l bx (d + j) _ hb 1 (by omega)).trans rfl)
    rwa [← e 1] at this
  · have := hr'.cell ((d + j) * 4 + 2) _ ((bcells_at l bx (d + j) _ hb 2 (by omega)).trans rfl)
    rwa [← e 2] at this
  · have := hr'.cell ((d + j) * 4 + 3) _ ((bcells_at l bx (d + j) _ hb 3 (by omega)).trans rfl)
    rwa [← e 3] at this
end Go.Proofs.Ytkbdonecbepfnaa.Vs
