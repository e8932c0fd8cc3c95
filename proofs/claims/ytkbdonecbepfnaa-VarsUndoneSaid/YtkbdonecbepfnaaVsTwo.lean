/- Variables and their copy, side by side. -/
import Derived.Test.YtkbdonecbepfnaaVsCopied
namespace Go.Proofs.Ytkbdonecbepfnaa.Vs
open Go.RowKit Go.Maps Go.Lib
open Go.Proofs.Ytkbdonecbepfnaa.Own

/-- Labels that no part wants are struck. -/
theorem VsIs.relab {w : World} {base vp : Nat} {s : Vs} {lab : Nat → Option VLab} {P : VParts} (h : VsIs w base vp s lab P) (q : Nat → Bool) (hq : ∀ b, VOf lab b → q b = false) (hb : ∀ (i : Nat) (b : Bd), s.binds[i]? = some b → q (P.bx i).1 = false ∧ q (P.bx i).2 = false) :
    VsIs w base vp s (fun b => if q b = true then none else lab b) P := by
  have hG : ∀ {b l}, lab b = some l → l ≠ .box → (if q b = true then none else lab b) = some l := fun {b l} hl hn => by
    rw [hq b ⟨by rw [hl]; simp, by rw [hl]; simpa using hn⟩]
    simpa using hl
  have hX : ∀ {b}, lab b = some .box → q b = false → (if q b = true then none else lab b) = some .box := fun hl hn => by
    rw [hn]
    simpa using hl
  exact { h with
    inb := fun b l hl => by
      cases hqb : q b with
      | true => simp [hqb] at hl
      | false => simp [hqb] at hl; exact h.inb b l hl
    hdr := hG h.hdr (by simp)
    clab := hG h.clab (by simp)
    mlab := hG h.mlab (by simp)
    ilab := fun k hk => hG (h.ilab k hk) (by simp)
    cclab := fun k n c hn => hG (h.cclab k n c hn) (by simp)
    blab := fun b hb' => hG (h.blab b hb') (by simp)
    kbox := fun i b hi => ⟨hX (h.kbox i b hi).1 (hb i b hi).1, (h.kbox i b hi).2⟩
    nbox := fun i b hi => ⟨hX (h.nbox i b hi).1 (hb i b hi).2, (h.nbox i b hi).2⟩ }

/-- Variables s at vp, and others, t at op, of which no call on the first writes anything. -/
structure Two (w : World) (base vp op : Nat) (s t : Vs) : Prop where
  is : ∃ lab P lab2 P2, VsIs w base vp s lab P ∧ VsIs w base op t lab2 P2 ∧ ∀ b, VOf lab b → lab2 b = none
theorem Two.below {w w' : World} {base vp op : Nat} {s t : Vs} (h : Two w base vp op s t) (hb : Below w.heap.size w w') : Two w' base vp op s t := by
  obtain ⟨lab, P, lab2, P2, h1, h2, h3⟩ := h
  exact ⟨lab, P, lab2, P2, h1.below hb, h2.below hb, h3⟩
/-- Behind a Copy. -/
theorem Two.start {w w' : World} {base vp op : Nat} {s : Vs} {lab : Nat → Option VLab} {P : VParts} (h : VsIs w base vp s lab P) (hc : CopySt w w' base op s P.bx s.cells) : ∃ t, Two w' base vp op s t ∧ t.cells = s.cells ∧ t.marks = s.marks ∧ t.scope = s.scope ∧ t.binds = s.binds := by
  classical
  obtain ⟨⟨t, lab2, P2, hI, hV, hC, hM, hS, hB, hX⟩, hbel⟩ := hc
  refine ⟨t, ⟨lab, P, _, P2, h.below hbel, hI.relab (fun b => decide (VOf lab b)) (fun b hv => ?_) (fun i b hi => ?_), fun b hv => by simp [hv]⟩, hC, hM, hS, hB⟩
  · have hn := h.fresh (hV b hv)
    simp [VOf, hn]
  · rw [hB] at hi
    rw [hX]
    have h1 := (h.kbox i b hi).1
    have h2 := (h.nbox i b hi).1
    simp [VOf, h1, h2]
/-- A call on the first. -/
theorem Two.act {w : World} {base vp op : Nat} {s s' t : Vs} {f : FuncId} {args : Array Value} {r : Value} (h : Two w base vp op s t) (hb : base ≤ w.heap.size)
    (hc : ∀ lab P, VsIs w base vp s lab P → Calls Try.prog f args w fun e w' => e = .returned r ∧ VsOk w w' base vp s' lab) : Calls Try.prog f args w fun e w' => e = .returned r ∧ Two w' base vp op s' t ∧ Below base w w' := by
  obtain ⟨lab, P, lab2, P2, h1, h2, h3⟩ := h
  refine (hc lab P h1).mono ?_
  rintro e w' ⟨rfl, lab', P', h4, h5⟩
  refine ⟨rfl, ⟨lab', P', lab2, P2, h4, h2.keeps h5.keeps h3, fun b hv => ?_⟩, h5.bel h1 hb⟩
  rcases h5.grow b hv with e | e
  · exact h3 b e
  · exact h2.fresh e
end Go.Proofs.Ytkbdonecbepfnaa.Vs
