/- Groundwork of Copy: loops over maps, and what a copy is between two rounds. -/
import Derived.Test.YtkbdonecbepfnaaVsClone
import Derived.Maps.RangeWalk
namespace Go.Proofs.Ytkbdonecbepfnaa.Vs
open Go.RowKit Go.Maps Go.Lib
open Go.Proofs.Ytkbdonecbepfnaa.Own
set_option maxRecDepth 100000

/-- A map, opened for a loop over it. -/
theorem MapOf.opened {w : World} {b : Nat} {F : Int → Option Value} (h : MapOf w b F) :
    ∃ D : DataW Value, w.ownsMap Try.prog 3 heldR b (size D) D ∧ (∀ x, has D (ki x) = (F x).isSome) ∧ (∀ x z, D.atKey (ki x) (.held z) = .held ((F x).getD z)) ∧ ∀ x, (F x).isSome = true → 0 ≤ x ∧ x ≤ 65536 := by
  obtain ⟨D, ks, ho, _, _, _, h1, h2, hr⟩ := h
  exact ⟨D, ho, h1, h2, hr⟩
/-- What comes out is what the map holds there. -/
theorem held_at {D : DataW Value} {F : Int → Option Value} (h : ∀ x z, D.atKey (ki x) (.held z) = .held ((F x).getD z)) {x : Int} {c : Value} (hc : ∀ zd, D.atKey (ki x) zd = .held c) : F x = some c := by
  have h1 := (h x (.bool true)).symm.trans (hc _)
  have h2 := (h x (.bool false)).symm.trans (hc _)
  simp only [DataW.held.injEq] at h1 h2
  cases hf : F x with
  | some v => rw [hf] at h1; simpa using h1
  | none =>
    rw [hf] at h1 h2
    simp only [Option.getD_none] at h1 h2
    rw [← h1] at h2
    cases h2
theorem ranges_keeps {G : Nat → Prop} {w w' : World} {b r n : Nat} {D : DataW Value} {left : Lit → Bool} {cnt : Nat} (h : w.ranges Try.prog 3 heldR b r n D left cnt) (hk : Keeps G w w') (hb : ¬ G b) (hr : ¬ G r) : w'.ranges Try.prog 3 heldR b r n D left cnt := by
  obtain ⟨es, clock, since, seen, c0, h1, h2, h3, h4, h5, h6⟩ := h
  exact ⟨es, clock, since, seen, c0, (hk.block b (Array.getElem?_eq_some_iff.1 h1).1 hb).trans h1, h2, h3, h4, (hk.block r (Array.getElem?_eq_some_iff.1 h5).1 hr).trans h5, h6⟩
theorem same_ki (x y : Int) : (ki x).sameKey (ki y) = decide (x = y) := by
  by_cases e : x = y <;> simp [Lit.sameKey, e]
theorem ki_inv {x : Value} {kl : Lit} (h : keyOf Try.prog 3 x = some kl) : ∃ z, x = .int .i64 z ∧ kl = ki z := by
  obtain ⟨z, h1, h2, _⟩ := Maps.keyOf_int_inv Try.underlying3 h
  exact ⟨z, h1, h2⟩

/-- An iterator is no part of the variables. -/
theorem VsIs.unlab {w : World} {base vp r : Nat} {s : Vs} {lab : Nat → Option VLab} {P : VParts} (h : VsIs w base vp s lab P) {o : Obj} (hr : w.heap[r]? = some o) (hc : ∀ cs t z, o ≠ .cells cs t z) (hm : ∀ es k, o ≠ .map es k) : VsIs w base vp s (fun b => if b = r then none else lab b) P := by
  have hB : ∀ {b cs t}, Blk w b cs t → b ≠ r := fun hb e => by
    subst e
    unfold Blk at hb
    rw [hr] at hb
    exact hc _ _ _ (Option.some.inj hb)
  have hM : ∀ {b F}, MapOf w b F → b ≠ r := fun hb e => by
    subst e
    obtain ⟨D, ks, ⟨es, clock, h1, _⟩, _⟩ := hb
    rw [hr] at h1
    exact hm _ _ (Option.some.inj h1)
  have hG : ∀ {b l}, b ≠ r → lab b = some l → (if b = r then none else lab b) = some l := fun hn hl => by rw [if_neg hn]; exact hl
  exact { h with
    inb := fun b l hb => by
      by_cases e : b = r
      · rw [if_pos e] at hb
        cases hb
      · rw [if_neg e] at hb
        exact h.inb b l hb
    hdr := hG (hB h.blk) h.hdr
    clab := hG (hM h.outer) h.clab
    mlab := hG (hM h.marks) h.mlab
    ilab := fun k hk => hG (hM (h.inner k hk)) (h.ilab k hk)
    cclab := fun k n c hn => hG (hB (h.cell k n c hn)) (h.cclab k n c hn)
    blab := fun b hb => hG (fun e => by
      subst e
      rcases h.binds.2 with ⟨hv, _⟩ | ⟨g, cap, cur, hv, _, hg, _⟩
      · rw [hv] at hb
        cases hb
      · rw [hv] at hb
        cases hb
        rw [hr] at hg
        exact hc _ _ _ (Option.some.inj hg)) (h.blab b hb)
    kbox := fun i b hb => ⟨hG (hB (h.kbox i b hb).2) (h.kbox i b hb).1, (h.kbox i b hb).2⟩
    nbox := fun i b hb => ⟨hG (hB (h.nbox i b hb).2) (h.nbox i b hb).1, (h.nbox i b hb).2⟩ }

/-- Between two rounds of Copy's loops: the copy holds what C says. -/
structure CopySt (w wr : World) (base op : Nat) (s : Vs) (bx : Nat → Nat × Nat) (C : Int → Int → Option Cl) : Prop where
  is : ∃ s2 lab2 P2, VsIs wr base op s2 lab2 P2 ∧ (∀ b, VOf lab2 b → w.heap.size ≤ b) ∧ s2.cells = C ∧ s2.marks = s.marks ∧ s2.scope = s.scope ∧ s2.binds = s.binds ∧ P2.bx = bx
  below : Below w.heap.size w wr
theorem CopySt.later {w wr w2 : World} {base op : Nat} {s : Vs} {bx : Nat → Nat × Nat} {C : Int → Int → Option Cl} (h : CopySt w wr base op s bx C) (hb : Below wr.heap.size wr w2) : CopySt w w2 base op s bx C := by
  obtain ⟨⟨s2, lab2, P2, h1, h2⟩, h3⟩ := h
  exact ⟨⟨s2, lab2, P2, h1.below hb, h2⟩, h3.trans (hb.mono h3.size)⟩
/-- Behind a step of an iterator. -/
theorem CopySt.next {w wr w2 : World} {base op : Nat} {s : Vs} {bx : Nat → Nat × Nat} {C : Int → Int → Option Cl} {b r n : Nat} {D : DataW Value} {left : Lit → Bool} {cnt : Nat} (h : CopySt w wr base op s bx C) (hr : wr.ranges Try.prog 3 heldR b r n D left cnt) (hrn : w.heap.size ≤ r) (hg : wr.grownBy w2 (some r)) : CopySt w w2 base op s bx C := by
  obtain ⟨⟨s2, lab2, P2, h1, h2, h4⟩, h3⟩ := h
  obtain ⟨es, clock, since, seen, c0, _, _, _, _, h5, _⟩ := hr
  have hk : Keeps (fun k => k = r) wr w2 := keeps_grown hg
  refine ⟨⟨s2, _, P2, (h1.unlab h5 (fun _ _ _ e => by cases e) (fun _ _ e => by cases e)).keeps hk (fun k e => by rw [e, if_pos rfl]), fun k hkv => ?_, h4⟩, h3.trans (hk.below h3.size fun k e => by rw [e]; exact hrn)⟩
  by_cases e : k = r
  · rw [e]
    exact hrn
  · unfold VOf at hkv
    dsimp only at hkv
    rw [if_neg e] at hkv
    exact h2 k hkv
theorem owns_base {w : World} {base base' : Nat} {e : TypeId} {size : Nat} {v : Value} {n : Nat} {xs : List Value} (h : w.ownsRow base e size v n xs) (hb : base' ≤ base) : w.ownsRow base' e size v n xs :=
  ⟨h.1, h.2.imp id fun ⟨g, cap, cur, hv, hg, r⟩ => ⟨g, cap, cur, hv, Nat.le_trans hb hg, r⟩⟩
/-- A new copy, before anything is stored in it. -/
theorem copy_made {w W : World} {base vp : Nat} {s : Vs} {lab : Nat → Option VLab} {P : VParts} (h : VsIs w base vp s lab P) (hb : base ≤ w.heap.size) (hB : Below w.heap.size w W) (cb mb : Nat) (bv : Value)
    (hcb : MapOf W cb (fun _ => none)) (hmb : MapOf W mb (mkF s)) (hrow : W.ownsRow w.heap.size 65 4 bv s.binds.length (bcells s.binds P.bx 0)) (h1 : w.heap.size ≤ cb) (h2 : w.heap.size ≤ mb) (hne : cb ≠ mb) (op : Nat) (hop : op = W.heap.size) :
    CopySt w (W.alloc (.cells #[.map (some cb), .map (some mb), .int .i64 s.scope, bv] 56)) base op s P.bx (fun _ _ => none) := by
  subst hop
  have hA : Below W.heap.size W (W.alloc (.cells #[.map (some cb), .map (some mb), .int .i64 s.scope, bv] 56)) := (Below.refl _ _).alloc (Nat.le_refl _) _
  have hs := hB.size
  have hcl := hcb.lt
  have hml := hmb.lt
  have hbe : ∀ g, bv.ownBlock = some g → w.heap.size ≤ g ∧ g < W.heap.size ∧ g ≠ cb ∧ g ≠ mb := by
    intro g hg
    rcases hrow.2 with ⟨hv, _⟩ | ⟨g', cap, cur, hv, h3, h4, _⟩
    · rw [hv] at hg
      cases hg
    · rw [hv] at hg
      cases hg
      refine ⟨h3, (Array.getElem?_eq_some_iff.1 h4).1, fun e => ?_, fun e => ?_⟩
      · obtain ⟨D, ks, ⟨es, clock, h5, _⟩, _⟩ := hcb
        rw [← e, h4] at h5
        cases h5
      · obtain ⟨D, ks, ⟨es, clock, h5, _⟩, _⟩ := hmb
        rw [← e, h4] at h5
        cases h5
  have hbx : ∀ {i b}, s.binds[i]? = some b → ((P.bx i).1 < w.heap.size ∧ lab (P.bx i).1 = some .box ∧ Blk w (P.bx i).1 #[.int .i64 b.k] 3) ∧ ((P.bx i).2 < w.heap.size ∧ lab (P.bx i).2 = some .box ∧ Blk w (P.bx i).2 #[.int .i64 b.n] 3) := fun hi =>
    ⟨⟨(h.kbox _ _ hi).2.lt, (h.kbox _ _ hi).1, (h.kbox _ _ hi).2⟩, ⟨(h.nbox _ _ hi).2.lt, (h.nbox _ _ hi).1, (h.nbox _ _ hi).2⟩⟩
  classical
  obtain ⟨L, hL⟩ : ∃ L : Nat → Option VLab, L = fun b => if b < w.heap.size then (if lab b = some .box then some .box else none) else if b = cb then some .outer else if b = mb then some .marks else if b = W.heap.size then some .hdr else if bv.ownBlock = some b then some .binds else none := ⟨_, rfl⟩
  have hLbox : ∀ b, b < w.heap.size → lab b = some .box → L b = some .box := fun b h3 h4 => by rw [hL]; dsimp only; rw [if_pos h3, if_pos h4]
  have hLcb : L cb = some .outer := by rw [hL]; dsimp only; rw [if_neg (by omega), if_pos rfl]
  have hLmb : L mb = some .marks := by rw [hL]; dsimp only; rw [if_neg (by omega), if_neg (fun e => hne e.symm), if_pos rfl]
  have hLh : L W.heap.size = some .hdr := by rw [hL]; dsimp only; rw [if_neg (by omega), if_neg (by omega), if_neg (by omega), if_pos rfl]
  have hLb : ∀ g, bv.ownBlock = some g → L g = some .binds := fun g hg => by
    obtain ⟨h3, h4, h5, h6⟩ := hbe g hg
    rw [hL]
    dsimp only
    rw [if_neg (by omega), if_neg h5, if_neg h6, if_neg (by omega), if_pos hg]
  have hLi : ∀ b l, L b = some l → base ≤ b ∧ b < W.heap.size + 1 := fun b l hb' => by
    rw [hL] at hb'
    dsimp only at hb'
    split at hb'
    · next h3 =>
      split at hb'
      · next h4 => have := h.inb b _ h4; omega
      · cases hb'
    · split at hb'
      · omega
      · split at hb'
        · omega
        · split at hb'
          · omega
          · split at hb'
            · next h7 => have := hbe b h7; omega
            · cases hb'
  refine ⟨⟨⟨fun _ => false, fun _ _ => none, s.marks, s.scope, s.binds⟩, L, ⟨cb, mb, fun _ => 0, fun _ _ => 0, bv, P.bx⟩, ?_, fun b hv => ?_, rfl, rfl, rfl, rfl, rfl⟩, hB.trans (hA.mono hs)⟩
  · exact {
      inb := fun b l hl => by have := hLi b l hl; simpa using this
      hdr := hLh
      blk := Blk.new _ _ _
      clab := hLcb
      mlab := hLmb
      outer := (hcb.below hA).congr fun k => by simp [outF]
      ilab := fun k hk => by cases hk
      inner := fun k hk => by cases hk
      chas := fun k n c hc => by cases hc
      cclab := fun k n c hc => by cases hc
      cell := fun k n c hc => by cases hc
      marks := hmb.below hA
      mok := h.mok
      binds := owns_base (owns_below hrow hA) hb
      blab := hLb
      kbox := fun i b hi => ⟨hLbox _ (hbx hi).1.1 (hbx hi).1.2.1, ((hbx hi).1.2.2.below hB).below (hA)⟩
      nbox := fun i b hi => ⟨hLbox _ (hbx hi).2.1 (hbx hi).2.2.1, ((hbx hi).2.2.2.below hB).below (hA)⟩
      bok := h.bok
      sok := h.sok
      many := h.many }
  · by_cases h3 : b < w.heap.size
    · exfalso
      unfold VOf at hv
      rw [hL] at hv
      dsimp only at hv
      rw [if_pos h3] at hv
      by_cases h4 : lab b = some .box
      · rw [if_pos h4] at hv
        exact hv.2 rfl
      · rw [if_neg h4] at hv
        exact hv.1 rfl
    · omega
/-- The cells when those of the scopes in L, and of scope k those in M, are still to come. -/
def yet (s : Vs) (L : Lit → Bool) : Int → Int → Option Cl := fun k n => if L (ki k) = true then none else s.cells k n
def yetIn (s : Vs) (L M : Lit → Bool) (k : Int) : Int → Int → Option Cl := fun j n => if j = k then (if M (ki n) = true then none else s.cells j n) else if L (ki j) = true then none else s.cells j n
/-- A cell of the copy is stored, between two rounds. -/
theorem copy_store {w wr : World} {base op b1 r1 n1 b2 r2 n2 c1 c2 : Nat} {s : Vs} {bx : Nat → Nat × Nat} {C : Int → Int → Option Cl} {D1 D2 : DataW Value} {L1 L2 : Lit → Bool} (h : CopySt w wr base op s bx C) (hb : base ≤ w.heap.size)
    (g1 : wr.ranges Try.prog 3 heldR b1 r1 n1 D1 L1 c1) (g2 : wr.ranges Try.prog 3 heldR b2 r2 n2 D2 L2 c2) (h1 : b1 < w.heap.size) (h2 : b2 < w.heap.size) (n k : Int) (c : Cl) (hn : 0 ≤ n ∧ n ≤ 65536) (hk : 0 ≤ k ∧ k ≤ 65536) :
    Calls Try.prog 38 #[vptr op, .int .i64 n, .int .i64 k, clv c] wr fun e w' => e = .returned (.tuple #[]) ∧ CopySt w w' base op s bx (fun j m => if j = k ∧ m = n then some c else C j m) ∧ w'.ranges Try.prog 3 heldR b1 r1 n1 D1 L1 c1 ∧ w'.ranges Try.prog 3 heldR b2 r2 n2 D2 L2 c2 := by
  obtain ⟨⟨s2, lab2, P2, hI, hV, hC, hM, hS, hB, hX⟩, hbel⟩ := h
  obtain ⟨_, _, _, _, _, _, _, _, _, q1, _⟩ := id g1
  obtain ⟨_, _, _, _, _, _, _, _, _, q2, _⟩ := id g2
  have hI2 := (hI.unlab q1 (fun _ _ _ e => by cases e) (fun _ _ e => by cases e)).unlab q2 (fun _ _ _ e => by cases e) (fun _ _ e => by cases e)
  obtain ⟨lb, hlb⟩ : ∃ lb : Nat → Option VLab, lb = fun b => if b = r2 then none else (fun b => if b = r1 then none else lab2 b) b := ⟨_, rfl⟩
  rw [← hlb] at hI2
  have hV2 : ∀ b, VOf lb b → VOf lab2 b ∧ b ≠ r1 ∧ b ≠ r2 := fun b hv => by
    unfold VOf at hv ⊢
    rw [hlb] at hv
    by_cases e2 : b = r2
    · simp [e2] at hv
    · by_cases e1 : b = r1
      · simp [e1] at hv
      · simp [e1, e2] at hv
        exact ⟨⟨by simpa using hv.1, by simpa using hv.2⟩, e1, e2⟩
  refine (store_wide hI2 (Nat.le_trans hb hbel.size) n k c hn hk).mono ?_
  rintro e w' ⟨rfl, lab3, P3, hI3, hA3, hX3⟩
  refine ⟨rfl, ⟨⟨_, lab3, P3, hI3, fun b hv => ?_, ?_, hM, hS, hB, hX3.trans hX⟩, hbel.trans (hA3.keeps.below hbel.size fun b hv => hV b (hV2 b hv).1)⟩, ranges_keeps g1 hA3.keeps (fun hv => ?_) (fun hv => (hV2 _ hv).2.1 rfl), ranges_keeps g2 hA3.keeps (fun hv => ?_) (fun hv => (hV2 _ hv).2.2 rfl)⟩
  · rcases hA3.grow b hv with e | e
    · exact hV b (hV2 b e).1
    · exact Nat.le_trans hbel.size e
  · funext j m
    simp only [putC, hC]
  · have := hV _ (hV2 _ hv).1
    omega
  · have := hV _ (hV2 _ hv).1
    omega
/-- The two loops' steps, plainly. -/
theorem yetIn_start {s : Vs} {L M : Lit → Bool} {x : Int} (hl : L (ki x) = true) (hm : ∀ n, M (ki n) = (s.cells x n).isSome) : yetIn s (fun z => L z && !z.sameKey (ki x)) M x = yet s L := by
  funext k n
  unfold yetIn yet
  by_cases e : k = x
  · subst e
    rw [if_pos rfl, if_pos hl, hm n]
    cases s.cells k n <;> simp
  · rw [if_neg e]
    simp [same_ki, e]
theorem yetIn_end {s : Vs} {L M : Lit → Bool} {x : Int} (hm : ∀ z, M z = false) : yetIn s (fun z => L z && !z.sameKey (ki x)) M x = yet s (fun z => L z && !z.sameKey (ki x)) := by
  funext k n
  unfold yetIn yet
  by_cases e : k = x
  · subst e
    simp [hm, same_ki]
  · rw [if_neg e]
theorem yetIn_step {s : Vs} {L M : Lit → Bool} {x y : Int} {c : Cl} (hc : s.cells x y = some c) : (fun j m => if j = x ∧ m = y then some c else yetIn s L M x j m) = yetIn s L (fun z => M z && !z.sameKey (ki y)) x := by
  funext j m
  unfold yetIn
  by_cases e : j = x
  · subst e
    by_cases e2 : m = y
    · subst e2
      simp [same_ki, hc]
    · simp [same_ki, e2]
  · simp [e]
end Go.Proofs.Ytkbdonecbepfnaa.Vs
