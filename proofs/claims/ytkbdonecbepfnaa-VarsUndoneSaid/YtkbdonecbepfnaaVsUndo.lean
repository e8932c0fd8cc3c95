/- The contract of the closure of Bind. -/
import Derived.Test.YtkbdonecbepfnaaVsIter
namespace Go.Proofs.Ytkbdonecbepfnaa.Vs
open Go.RowKit Go.Maps Go.Lib
open Go.Proofs.Ytkbdonecbepfnaa.Own
set_option maxRecDepth 100000

/-- The blocks of cells. -/
def CellOf (lab : Nat → Option VLab) (b : Nat) : Prop := ∃ k n, lab b = some (.cell k n)
/-- What the undoing of a binding leaves. -/
structure UndoEnd (w w' : World) (base vp : Nat) (s : Vs) (lab : Nat → Option VLab) (P : VParts) : Prop where
  is : VsIs w' base vp s lab P
  keeps : Keeps (CellOf lab) w w'
  others : KeepsOthers w w'

theorem others_set3 {w : World} {g : Nat} {a b c : Value} : KeepsOthers w (((w.setCell ⟨g, 0, none⟩ a).setCell ⟨g, 1, none⟩ b).setCell ⟨g, 2, none⟩ c) :=
  ((KeepsOthers.setCell w ⟨g, 0, none⟩ a).trans (KeepsOthers.setCell _ ⟨g, 1, none⟩ b)).trans (KeepsOthers.setCell _ ⟨g, 2, none⟩ c)
set_option maxHeartbeats 1000000 in
theorem store_there {w : World} {base vp : Nat} {s : Vs} {lab : Nat → Option VLab} {P : VParts} (h : VsIs w base vp s lab P) (n k : Int) (c d : Cl) (hwn : Wf n) (hwk : Wf k) (hd0 : s.cells k n = some d) :
    Calls Try.prog 38 #[vptr vp, .int .i64 n, .int .i64 k, clv c] w fun e w' => e = .returned (.tuple #[]) ∧ UndoEnd w w' base vp (putC s n k c) lab P := by
  have hB : Below w.heap.size w (w.alloc (.cells (clc c) 62)) := (Below.refl _ _).alloc (Nat.le_refl _) _
  have h1 := h.alloc (.cells (clc c) 62)
  have hnew := Blk.new w (clc c) 62
  obtain ⟨c0, c1, c2, c3⟩ := h1.blk.four
  rcases h1.look n k hwn hwk with ⟨hc, _⟩ | ⟨hc, _⟩ | ⟨d', hc, hh, l1, l2, hd⟩
  · rw [hd0] at hc
    cases hc
  · rw [hd0] at hc
    cases hc
  · have q := neqPtr (w.alloc (.cells (clc c) 62)) (P.cl k n)
    obtain ⟨d0, d1, d2⟩ := blk_three hd
    have f0 := hd.free 0
    have f1 := hd.free 1
    have f2 := hd.free 2
    obtain ⟨hI, hA⟩ := h1.setContent hc c keeps_set3 (blk_set3 c hd)
    have hk := (keeps_set3 (w := w.alloc (.cells (clc c) 62)) (g := P.cl k n) (a := .int .i64 c.1.1) (b := .int .i64 c.1.2) (c := .bool c.2)).mono (G := CellOf lab) fun b _ e => ⟨k, n, by rw [e]; exact h.cclab k n d' hc⟩
    have HF := Lib.hid (show UndoEnd w _ base vp (putC s n k c) lab P from ⟨hI, (Keeps.of_below hB).trans hk, (KeepsOthers.alloc _ _).trans others_set3⟩)
    clear h h1 hB hnew hc hh hd hI hA hwn hwk hk hd0
    go_enter Try.func38, Try.ntmps38
    go_wp2
    exact bodyPost_ret (results_none rfl _ _ _) rfl ⟨rfl, HF.out⟩

/-- What the undoing of a binding makes of variables. -/
def undoO (s : Vs) (b : Bd) : Vs := if (s.cells b.k b.n).isSome = true then putC s b.n b.k b.old else s
set_option maxHeartbeats 1000000 in
theorem undo_any {w : World} {base vp kb nb : Nat} {s : Vs} {lab : Nat → Option VLab} {P : VParts} (h : VsIs w base vp s lab P) (b : Bd) (hn : 0 ≤ b.n ∧ b.n < 16384) (hk : 0 ≤ b.k ∧ b.k ≤ 65536) (hg : b.k = 0 → (s.cells 0 b.n).isSome = true)
    (hkb : Blk w kb #[.int .i64 b.k] 3) (hnb : Blk w nb #[.int .i64 b.n] 3) :
    Calls Try.prog 41 #[vptr vp, clv b.old, ptr kb, ptr nb] w fun e w' => e = .returned (.tuple #[]) ∧ UndoEnd w w' base vp (undoO s b) lab P := by
  obtain ⟨c, n, k⟩ := b
  simp only at hn hk hg hkb hnb ⊢
  have hwn : Wf n := by unfold Wf; omega
  have hwk : Wf k := by unfold Wf; omega
  have hB := box_below w (cbox c)
  have h1 := h.below hB
  have hO := KeepsOthers.alloc w (cbox c)
  have k0 := (hkb.below hB).cell 0 _ rfl
  have n0 := (hnb.below hB).cell 0 _ rfl
  unfold undoO
  simp only
  cases hs : s.cells k n with
  | none =>
    have hk1 : ¬ k = 0 := fun e => by subst e; have := hg rfl; rw [hs] at this; cases this
    have hz : (k == 0) = false := beq_eq_false_iff_ne.2 hk1
    have hl : isLocalB s n k = false := by simp [isLocalB, hs]
    have HI := Lib.hid (isLocal_any h1 n k hwn hwk)
    rw [hl] at HI
    have HF := Lib.hid (show UndoEnd w (w.alloc (cbox c)) base vp s lab P from ⟨h1, .of_below hB, hO⟩)
    clear h h1 hB hO hkb hnb hs hk1 hl hwn hwk hn hk hg
    go_enter Try.func41, Try.ntmps41
    go_wp2_with fail
    refine HI.out.mono ?_
    rintro e w' ⟨rfl, rfl⟩
    go_wp2
    go_end0
    exact ⟨rfl, HF.out⟩
  | some d =>
    have HS := Lib.hid ((store_there h1 n k c d hwn hwk hs).mono (R' := fun e w' => e = .returned (.tuple #[]) ∧ UndoEnd w w' base vp (putC s n k c) lab P) fun _ _ ⟨he, hu⟩ => ⟨he, hu.is, (Keeps.of_below hB).trans hu.keeps, hO.trans hu.others⟩)
    by_cases hk0 : k = 0
    · subst hk0
      clear h h1 hB hO hkb hnb hs hwn hwk hn hk hg
      go_enter Try.func41, Try.ntmps41
      go_wp2_with fail
      refine HS.out.mono ?_
      rintro e w' ⟨rfl, hu⟩
      go_wp2
      go_end0
      exact ⟨rfl, hu⟩
    · have hz : (k == 0) = false := beq_eq_false_iff_ne.2 hk0
      have hl : isLocalB s n k = true := by simp [isLocalB, hs, isScopeB]; omega
      have HI := Lib.hid (isLocal_any h1 n k hwn hwk)
      rw [hl] at HI
      clear h h1 hB hO hkb hnb hs hwn hwk hn hk hg hk0 hl
      go_enter Try.func41, Try.ntmps41
      go_wp2_with fail
      refine HI.out.mono ?_
      rintro e w' ⟨rfl, rfl⟩
      go_wp2_with fail
      refine HS.out.mono ?_
      rintro e w' ⟨rfl, hu⟩
      go_wp2
      go_end0
      exact ⟨rfl, hu⟩
end Go.Proofs.Ytkbdonecbepfnaa.Vs
