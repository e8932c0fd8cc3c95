/- The contract of store. -/
import Derived.Test.YtkbdonecbepfnaaVsRead
namespace Go.Proofs.Ytkbdonecbepfnaa.Vs
open Go.RowKit Go.Maps
open Go.Proofs.Ytkbdonecbepfnaa.Own
set_option maxRecDepth 100000

/-- A cell with a content. -/
def putC (s : Vs) (n k : Int) (c : Cl) : Vs := ⟨fun j => if j = k then true else s.has j, fun j m => if j = k ∧ m = n then some c else s.cells j m, s.marks, s.scope, s.binds⟩

theorem blk_set3 {w : World} {g : Nat} {c : Cl} {t : TypeId} (c' : Cl) (h : Blk w g (clc c) t) :
    Blk (((w.setCell ⟨g, 0, none⟩ (.int .i64 c'.1.1)).setCell ⟨g, 1, none⟩ (.int .i64 c'.1.2)).setCell ⟨g, 2, none⟩ (.bool c'.2)) g (clc c') t := by
  have := ((h.set 0 (.int .i64 c'.1.1)).set 1 (.int .i64 c'.1.2)).set 2 (.bool c'.2)
  simpa using this
/-- A content is laid in a cell that is there. -/
theorem VsIs.setContent {w w' : World} {base vp : Nat} {s : Vs} {lab : Nat → Option VLab} {P : VParts} {n k : Int} {c : Cl} (h : VsIs w base vp s lab P) (hc : s.cells k n = some c) (c' : Cl) (hk : Keeps (fun b => b = P.cl k n) w w') (hb : Blk w' (P.cl k n) (clc c') 62) :
    VsIs w' base vp (putC s n k c') lab P ∧ VAfter w w' lab lab := by
  have hl := h.cclab k n c hc
  have hF : ∀ b l, lab b = some l → l ≠ .cell k n → ¬ (b = P.cl k n) := fun b l hb hne e => by
    subst e
    rw [hl] at hb
    cases hb
    exact hne rfl
  refine ⟨{ h with
    inb := fun b l hb => ⟨(h.inb b l hb).1, Nat.lt_of_lt_of_le (h.inb b l hb).2 hk.size⟩
    blk := h.blk.keeps hk (hF _ _ h.hdr (by simp))
    outer := (h.outer.keeps hk (hF _ _ h.clab (by simp))).congr fun j => ?_
    ilab := fun j hj => ?_
    inner := fun j hj => ?_
    chas := fun j m d hd => ?_
    cclab := fun j m d hd => ?_
    cell := fun j m d hd => ?_
    marks := h.marks.keeps hk (hF _ _ h.mlab (by simp))
    binds := owns_keeps h.binds hk fun b hb => hF _ _ (h.blab b hb) (by simp)
    kbox := fun i b hb => ⟨(h.kbox i b hb).1, (h.kbox i b hb).2.keeps hk (hF _ _ (h.kbox i b hb).1 (by simp))⟩
    nbox := fun i b hb => ⟨(h.nbox i b hb).1, (h.nbox i b hb).2.keeps hk (hF _ _ (h.nbox i b hb).1 (by simp))⟩
    bok := h.bok }, ⟨hk.mono fun b _ e => ?_, fun b hb => .inl hb⟩⟩
  · simp only [outF, putC]
    by_cases e : j = k
    · subst e
      simp [h.chas j n c hc]
    · simp [e]
  · by_cases e : j = k
    · subst e
      exact h.ilab j (h.chas j n c hc)
    · exact h.ilab j (by simpa [putC, e] using hj)
  · have hj' : s.has j = true := by
      by_cases e : j = k
      · subst e
        exact h.chas j n c hc
      · simpa [putC, e] using hj
    refine ((h.inner j hj').keeps hk (hF _ _ (h.ilab j hj') (by simp))).congr fun m => ?_
    simp only [innF, putC]
    by_cases e : j = k ∧ m = n
    · obtain ⟨rfl, rfl⟩ := e
      simp [hc]
    · simp [e]
  · simp only [putC] at hd ⊢
    by_cases e : j = k
    · simp [e]
    · simp only [e, false_and, if_false] at hd ⊢
      exact h.chas j m d hd
  · simp only [putC] at hd
    by_cases e : j = k ∧ m = n
    · obtain ⟨rfl, rfl⟩ := e
      exact hl
    · rw [if_neg e] at hd
      exact h.cclab j m d hd
  · simp only [putC] at hd
    by_cases e : j = k ∧ m = n
    · rw [if_pos e] at hd
      cases hd
      obtain ⟨rfl, rfl⟩ := e
      exact hb
    · rw [if_neg e] at hd
      exact (h.cell j m d hd).keeps hk (hF _ _ (h.cclab j m d hd) (by simpa using e))
  · subst e
    unfold VOf
    rw [hl]
    simp

/-- Behind w the variables are s, and the boxes of their bindings are bx. -/
def VsOkB (w w' : World) (base vp : Nat) (s : Vs) (lab : Nat → Option VLab) (bx : Nat → Nat × Nat) : Prop := ∃ lab' P', VsIs w' base vp s lab' P' ∧ VAfter w w' lab lab' ∧ P'.bx = bx
/-- A new cell is hung into an inner map. -/
theorem VsIs.hang {w w' : World} {base vp g : Nat} {s : Vs} {lab : Nat → Option VLab} {P : VParts} {n k : Int} (h : VsIs w base vp s lab P) (hh : s.has k = true) (hc : s.cells k n = none) (c : Cl) (hg : lab g = none) (hgb : base ≤ g) (hgl : g < w.heap.size)
    (hk : Keeps (fun b => b = P.im k) w w') (hm : MapOf w' (P.im k) (upd (innF s P k) n (some (ptr g)))) (hb : Blk w' g (clc c) 62) :
    VsOkB w w' base vp (putC s n k c) (fun b => if b = g then some (.cell k n) else lab b) P.bx := by
  have hl := h.ilab k hh
  have hF : ∀ b l, lab b = some l → l ≠ .inner k → ¬ (b = P.im k) := fun b l hb hne e => by
    subst e
    rw [hl] at hb
    cases hb
    exact hne rfl
  have hG : ∀ b l, lab b = some l → (if b = g then some (VLab.cell k n) else lab b) = some l := fun b l hx => by
    rw [if_neg (fun e : b = g => by rw [e, hg] at hx; cases hx)]
    exact hx
  refine ⟨fun b => if b = g then some (.cell k n) else lab b, ⟨P.cb, P.mb, P.im, fun j m => if j = k ∧ m = n then g else P.cl j m, P.bv, P.bx⟩, ?_, ⟨hk.mono fun b _ e => ?_, fun b hb => .inl hb⟩, rfl⟩
  · refine {
      inb := fun b l hb => ?_
      hdr := hG _ _ h.hdr
      blk := h.blk.keeps hk (hF _ _ h.hdr (by simp))
      clab := hG _ _ h.clab
      mlab := hG _ _ h.mlab
      outer := (h.outer.keeps hk (hF _ _ h.clab (by simp))).congr fun j => ?_
      ilab := fun j hj => ?_
      inner := fun j hj => ?_
      chas := fun j m d hd => ?_
      cclab := fun j m d hd => ?_
      cell := fun j m d hd => ?_
      marks := h.marks.keeps hk (hF _ _ h.mlab (by simp))
      mok := h.mok
      binds := owns_keeps h.binds hk fun b hb => hF _ _ (h.blab b hb) (by simp)
      blab := fun b hb => hG _ _ (h.blab b hb)
      kbox := fun i b hb => ⟨hG _ _ (h.kbox i b hb).1, (h.kbox i b hb).2.keeps hk (hF _ _ (h.kbox i b hb).1 (by simp))⟩
      nbox := fun i b hb => ⟨hG _ _ (h.nbox i b hb).1, (h.nbox i b hb).2.keeps hk (hF _ _ (h.nbox i b hb).1 (by simp))⟩
      bok := h.bok
      sok := h.sok
      many := h.many }
    · by_cases e : b = g
      · subst e
        exact ⟨hgb, Nat.lt_of_lt_of_le hgl hk.size⟩
      · rw [if_neg e] at hb
        exact ⟨(h.inb b l hb).1, Nat.lt_of_lt_of_le (h.inb b l hb).2 hk.size⟩
    · simp only [outF, putC]
      by_cases e : j = k
      · subst e
        simp [hh]
      · simp [e]
    · have hj' : s.has j = true := by
        by_cases e : j = k
        · subst e
          exact hh
        · simpa [putC, e] using hj
      exact hG _ _ (h.ilab j hj')
    · have hj' : s.has j = true := by
        by_cases e : j = k
        · subst e
          exact hh
        · simpa [putC, e] using hj
      by_cases e : j = k
      · subst e
        refine hm.congr fun m => ?_
        simp only [innF, putC, upd]
        by_cases e : m = n
        · simp [e]
        · simp [e]
      · refine ((h.inner j hj').keeps hk (hF _ _ (h.ilab j hj') (by simpa using e))).congr fun m => ?_
        simp [innF, putC, e]
    · simp only [putC] at hd ⊢
      by_cases e : j = k
      · simp [e]
      · simp only [e, false_and, if_false] at hd ⊢
        exact h.chas j m d hd
    · simp only [putC] at hd
      by_cases e : j = k ∧ m = n
      · obtain ⟨rfl, rfl⟩ := e
        simp
      · rw [if_neg e] at hd
        simp only [if_neg e]
        exact hG _ _ (h.cclab j m d hd)
    · simp only [putC] at hd
      by_cases e : j = k ∧ m = n
      · rw [if_pos e] at hd
        cases hd
        obtain ⟨rfl, rfl⟩ := e
        simpa using hb
      · rw [if_neg e] at hd
        simp only [if_neg e]
        exact (h.cell j m d hd).keeps hk (hF _ _ (h.cclab j m d hd) (by simp))
  · subst e
    show (if P.im k = g then some (VLab.cell k n) else lab (P.im k)) ≠ none ∧ (if P.im k = g then some (VLab.cell k n) else lab (P.im k)) ≠ some .box
    rw [hG _ _ hl]
    simp

/-- A new inner map is hung into the outer one. -/
theorem VsIs.scoped {w w' : World} {base vp g : Nat} {s : Vs} {lab : Nat → Option VLab} {P : VParts} {k : Int} (h : VsIs w base vp s lab P) (hh : s.has k = false) (hg : lab g = none) (hgb : base ≤ g) (hgl : g < w.heap.size)
    (hk : Keeps (fun b => b = P.cb) w w') (hm : MapOf w' P.cb (upd (outF s P) k (some (.map (some g))))) (hb : MapOf w' g (fun _ => none)) :
    VsIs w' base vp ⟨fun j => if j = k then true else s.has j, s.cells, s.marks, s.scope, s.binds⟩ (fun b => if b = g then some (.inner k) else lab b) ⟨P.cb, P.mb, fun j => if j = k then g else P.im j, P.cl, P.bv, P.bx⟩ ∧
      VAfter w w' (fun b => if b = g then some (.inner k) else lab b) (fun b => if b = g then some (.inner k) else lab b) := by
  have hl := h.clab
  have hF : ∀ b l, lab b = some l → l ≠ .outer → ¬ (b = P.cb) := fun b l hb hne e => by
    subst e
    rw [hl] at hb
    cases hb
    exact hne rfl
  have hG : ∀ b l, lab b = some l → (if b = g then some (VLab.inner k) else lab b) = some l := fun b l hx => by
    rw [if_neg (fun e : b = g => by rw [e, hg] at hx; cases hx)]
    exact hx
  have hno : ∀ m, s.cells k m = none := fun m => by
    cases hc : s.cells k m with
    | none => rfl
    | some c => have := h.chas k m c hc; rw [hh] at this; cases this
  refine ⟨{
      inb := fun b l hb => ?_
      hdr := hG _ _ h.hdr
      blk := h.blk.keeps hk (hF _ _ h.hdr (by simp))
      clab := hG _ _ h.clab
      mlab := hG _ _ h.mlab
      outer := hm.congr fun j => ?_
      ilab := fun j hj => ?_
      inner := fun j hj => ?_
      chas := fun j m d hd => ?_
      cclab := fun j m d hd => hG _ _ (h.cclab j m d hd)
      cell := fun j m d hd => (h.cell j m d hd).keeps hk (hF _ _ (h.cclab j m d hd) (by simp))
      marks := h.marks.keeps hk (hF _ _ h.mlab (by simp))
      mok := h.mok
      binds := owns_keeps h.binds hk fun b hb => hF _ _ (h.blab b hb) (by simp)
      blab := fun b hb => hG _ _ (h.blab b hb)
      kbox := fun i b hb => ⟨hG _ _ (h.kbox i b hb).1, (h.kbox i b hb).2.keeps hk (hF _ _ (h.kbox i b hb).1 (by simp))⟩
      nbox := fun i b hb => ⟨hG _ _ (h.nbox i b hb).1, (h.nbox i b hb).2.keeps hk (hF _ _ (h.nbox i b hb).1 (by simp))⟩
      bok := h.bok
      sok := h.sok
      many := h.many }, ⟨hk.mono fun b _ e => ?_, fun b hb => .inl hb⟩⟩
  · by_cases e : b = g
    · subst e
      exact ⟨hgb, Nat.lt_of_lt_of_le hgl hk.size⟩
    · rw [if_neg e] at hb
      exact ⟨(h.inb b l hb).1, Nat.lt_of_lt_of_le (h.inb b l hb).2 hk.size⟩
  · simp only [outF, upd]
    by_cases e : j = k
    · simp [e]
    · simp [e]
  · by_cases e : j = k
    · simp [e]
    · simp only [e, if_false]
      exact hG _ _ (h.ilab j (by simpa [e] using hj))
  · by_cases e : j = k
    · subst e
      simp only [if_true]
      exact hb.congr fun m => by simp [innF, hno m]
    · simp only [e, if_false]
      have hj' : s.has j = true := by simpa [e] using hj
      exact ((h.inner j hj').keeps hk (hF _ _ (h.ilab j hj') (by simp))).congr fun m => by simp [innF]
  · simp only
    split
    · rfl
    · exact h.chas j m d hd
  · subst e
    show (if P.cb = g then some (VLab.inner k) else lab P.cb) ≠ none ∧ (if P.cb = g then some (VLab.inner k) else lab P.cb) ≠ some .box
    rw [hG _ _ hl]
    simp

theorem VAfter.named {w w' : World} {g : Nat} {x : VLab} {lab : Nat → Option VLab} (h : Below w.heap.size w w') (hg : w.heap.size ≤ g) : VAfter w w' lab (fun b => if b = g then some x else lab b) :=
  ⟨.of_below h, fun b hb => by
    by_cases e : b = g
    · exact .inr (by omega)
    · simp only [VOf, e, if_false] at hb
      exact .inl hb⟩
theorem VAfter.name {w w' : World} {g : Nat} {x : VLab} {lab lab' : Nat → Option VLab} (h : VAfter w w' lab lab') (hg : w.heap.size ≤ g) : VAfter w w' lab (fun b => if b = g then some x else lab' b) :=
  ⟨h.keeps, fun b hb => by
    by_cases e : b = g
    · exact .inr (by omega)
    · simp only [VOf, e, if_false] at hb
      exact h.grow b hb⟩
theorem keeps_set3 {w : World} {g : Nat} {a b c : Value} : Keeps (fun x => x = g) w (((w.setCell ⟨g, 0, none⟩ a).setCell ⟨g, 1, none⟩ b).setCell ⟨g, 2, none⟩ c) :=
  (((Keeps.refl (fun x => x = g) w).setCell ⟨g, 0, none⟩ _ fun _ => rfl).setCell ⟨g, 1, none⟩ _ fun _ => rfl).setCell ⟨g, 2, none⟩ _ fun _ => rfl
set_option maxHeartbeats 1000000 in
theorem store_wide {w : World} {base vp : Nat} {s : Vs} {lab : Nat → Option VLab} {P : VParts} (h : VsIs w base vp s lab P) (hb : base ≤ w.heap.size) (n k : Int) (c : Cl) (hn : 0 ≤ n ∧ n ≤ 65536) (hk : 0 ≤ k ∧ k ≤ 65536) :
    Calls Try.prog 38 #[vptr vp, .int .i64 n, .int .i64 k, clv c] w fun e w' => e = .returned (.tuple #[]) ∧ VsOkB w w' base vp (putC s n k c) lab P.bx := by
  have hwn : Wf n := by unfold Wf; omega
  have hwk : Wf k := by unfold Wf; omega
  have hB : Below w.heap.size w (w.alloc (.cells (clc c) 62)) := (Below.refl _ _).alloc (Nat.le_refl _) _
  have h1 := h.alloc (.cells (clc c) 62)
  have hnew := Blk.new w (clc c) 62
  have hfr := h.fresh (Nat.le_refl _)
  obtain ⟨c0, c1, c2, c3⟩ := h1.blk.four
  rcases h1.look n k hwn hwk with ⟨hc, hh, l1, l2⟩ | ⟨hc, hh, l1, l2⟩ | ⟨d, hc, hh, l1, l2, hd⟩
  · -- a new cell in a new map
    have q := neqPtrn (w.alloc (.cells (clc c) 62))
    have q2 := eqlMap2n (w.alloc (.cells (clc c) 62))
    have h2 := h1.alloc (.map #[] 0)
    have hz : (w.alloc (.cells (clc c) 62)).heap.size = w.heap.size + 1 := by simp
    obtain ⟨w3, hrun, hm, hg⟩ := h2.outer.store mapT1 (x := k) hk (.map (some (w.heap.size + 1)))
    have hk2 := keeps_grown hg
    have hf1 : lab (w.heap.size + 1) = none := h.fresh (Nat.le_succ _)
    have hne : ¬ (w.heap.size + 1 = P.cb) := fun e => by have := (h.inb _ _ h.clab).2; omega
    have hne0 : ¬ (w.heap.size = P.cb) := fun e => by have := (h.inb _ _ h.clab).2; omega
    have hmade : MapOf ((w.alloc (.cells (clc c) 62)).alloc (.map #[] 0)) (w.heap.size + 1) (fun _ => none) := by
      have := MapOf.made (w.alloc (.cells (clc c) 62))
      rwa [hz] at this
    obtain ⟨hI3, hA3⟩ := h2.scoped hh hf1 (by omega) (by simp) hk2 hm (hmade.keeps hk2 hne)
    have hl3 := hI3.outer.look mapT1 (zero1 w3) hwk
    simp only [outF, if_true, Option.getD_some] at hl3
    have hin := hI3.inner k (by simp)
    simp only [if_true] at hin
    obtain ⟨w4, hrun4, hm4, hg4⟩ := hin.store mapT2 (x := n) (by omega) (ptr w.heap.size)
    have hk4 := keeps_grown hg4
    have hsz := hg.size
    obtain ⟨e0, e1, e2, e3⟩ := hI3.blk.four
    simp only at e0 e1 e2 e3
    obtain ⟨lab', P', hI, hA, hbx⟩ := hI3.hang (n := n) (k := k) (g := w.heap.size) (by simp) hc c (by simp [hfr]) hb (by simp at hsz; omega) (by simpa using hk4) (by simpa using hm4)
      (((hnew.alloc _).keeps hk2 hne0).keeps hk4 (by omega))
    have hB2 : Below w.heap.size w ((w.alloc (.cells (clc c) 62)).alloc (.map #[] 0)) := ((Below.refl _ _).alloc (Nat.le_refl _) _).alloc (by simp) _
    have he : putC (⟨fun j => if j = k then true else s.has j, s.cells, s.marks, s.scope, s.binds⟩ : Vs) n k c = putC s n k c := by
      simp only [putC, Vs.mk.injEq, and_self, and_true]
      funext j
      by_cases e : j = k <;> simp [e]
    rw [he] at hI
    have HF := Lib.hid (show VsOkB w w4 base vp (putC s n k c) lab P.bx from ⟨lab', P', hI, (((VAfter.named hB2 (Nat.le_succ _)).trans hA3).name (Nat.le_refl _)).trans hA, hbx⟩)
    have hmm := @run_makeMap Try.prog
    clear h h1 hB hnew hfr hc hh hm hg hk2 hne hI hA hbx hwn hwk h2 hz hf1 hne0 hmade hI3 hA3 hin hm4 hg4 hk4 hsz hB2 he
    go_enter Try.func38, Try.ntmps38
    go_wp2
    go_end0
    exact ⟨rfl, HF.out⟩
  · -- a new cell
    have q := neqPtrn (w.alloc (.cells (clc c) 62))
    have q2 := eqlMap2 (w.alloc (.cells (clc c) 62)) (P.im k)
    obtain ⟨w2, hrun, hm, hg⟩ := (h1.inner k hh).store mapT2 (x := n) (by omega) (ptr w.heap.size)
    have hk2 := keeps_grown hg
    have hne : ¬ (w.heap.size = P.im k) := fun e => by have := (h.inb _ _ (h.ilab k hh)).2; omega
    obtain ⟨lab', P', hI, hA, hbx⟩ := h1.hang hh hc c hfr hb (by simp) hk2 hm (hnew.keeps hk2 hne)
    have HF := Lib.hid (show VsOkB w w2 base vp (putC s n k c) lab P.bx from ⟨lab', P', hI, (VAfter.named hB (Nat.le_refl _)).trans hA, hbx⟩)
    clear h h1 hB hnew hfr hc hh hm hg hk2 hne hI hA hbx hwn hwk
    go_enter Try.func38, Try.ntmps38
    go_wp2
    go_end0
    exact ⟨rfl, HF.out⟩
  · -- the cell is there
    have q := neqPtr (w.alloc (.cells (clc c) 62)) (P.cl k n)
    obtain ⟨d0, d1, d2⟩ := blk_three hd
    have f0 := hd.free 0
    have f1 := hd.free 1
    have f2 := hd.free 2
    obtain ⟨hI, hA⟩ := h1.setContent hc c keeps_set3 (blk_set3 c hd)
    have HF := Lib.hid (show VsOkB w _ base vp (putC s n k c) lab P.bx from ⟨lab, P, hI, (VAfter.below hB).trans hA, rfl⟩)
    clear h h1 hB hnew hfr hc hh hd hI hA hwn hwk
    go_enter Try.func38, Try.ntmps38
    go_wp2
    exact bodyPost_ret (results_none rfl _ _ _) rfl ⟨rfl, HF.out⟩
theorem store_any {w : World} {base vp : Nat} {s : Vs} {lab : Nat → Option VLab} {P : VParts} (h : VsIs w base vp s lab P) (hb : base ≤ w.heap.size) (n k : Int) (c : Cl) (hn : 0 ≤ n ∧ n < 16384) (hk : 0 ≤ k ∧ k ≤ 65536) :
    Calls Try.prog 38 #[vptr vp, .int .i64 n, .int .i64 k, clv c] w fun e w' => e = .returned (.tuple #[]) ∧ VsOk w w' base vp (putC s n k c) lab :=
  (store_wide h hb n k c ⟨hn.1, by omega⟩ hk).mono fun _ _ ⟨he, lab', P', h1, h2, _⟩ => ⟨he, lab', P', h1, h2⟩
end Go.Proofs.Ytkbdonecbepfnaa.Vs
