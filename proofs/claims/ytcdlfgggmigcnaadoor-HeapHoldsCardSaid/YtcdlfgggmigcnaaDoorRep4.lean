/- A heap in memory behind an object put at a free number, and behind an object removed. -/
import Derived.Test.YtcdlfgggmigcnaaDoorRep3
import Derived.Test.YtcdlfgggmigcnaaDoorFree2
namespace Go.Proofs.YtcdlfgggmigcnaaDoor.Rep
set_option maxRecDepth 100000
open Go.RowKit
open Go.Proofs.YtcdlfgggmigcnaaDoor.Own Go.Proofs.YtcdlfgggmigcnaaDoor.Hp Go.Proofs.YtcdlfgggmigcnaaDoor.HeapOrd Go.Proofs.YtcdlfgggmigcnaaDoor.Nums

theorem HeapU.free_end {w : World} {base hp lim : Nat} {ob : Obs} {lab : Nat → Option Lab} {P : Parts} {u : Value} (h : HeapU w base hp lim ob lab P u) (hnf : P.nf = 0) (_hlt : freeTo ob lim < lim) : freeTo ob lim = P.m := by
  obtain ⟨h1, h2, h3⟩ := freeTo_spec ob lim
  apply freeTo_unique ob lim P.m h.m
  · intro i hi
    cases ho : ob i with
    | some o => rfl
    | none =>
      obtain ⟨k, hk, _⟩ := (h.holes i).2 ⟨hi, ho⟩
      omega
  · intro _
    exact h.out _ (Nat.le_refl _)
theorem HeapU.free_hole {w : World} {base hp lim : Nat} {ob : Obs} {lab : Nat → Option Lab} {P : Parts} {u : Value} (h : HeapU w base hp lim ob lab P u) (hnf : 0 < P.nf) : freeTo ob lim = P.f 0 ∧ P.f 0 < P.m ∧ ob (P.f 0) = none := by
  have h0 := (h.holes (P.f 0)).1 ⟨0, hnf, rfl⟩
  have hm := h.m
  refine ⟨freeTo_unique ob lim (P.f 0) (by omega) (fun i hi => ?_) fun _ => h0.2, h0⟩
  cases ho : ob i with
  | some o => rfl
  | none =>
    obtain ⟨k, hk, hki⟩ := (h.holes i).2 ⟨by omega, ho⟩
    have := h.ord.least k hk
    omega
theorem HeapU.notFull {w : World} {base hp lim : Nat} {ob : Obs} {lab : Nat → Option Lab} {P : Parts} {u : Value} (h : HeapU w base hp lim ob lab P u) (hlt : freeTo ob lim < lim) (hnf : P.nf = 0) : P.m < lim := by
  rw [← h.free_end hnf hlt]; exact hlt

theorem HeapU.placeHole {w w' : World} {base hp lim n g c go co : Nat} {ob : Obs} {lab : Nat → Option Lab} {P : Parts} {u v : Value} {o : Ob} {f' : Nat → Nat} (h : HeapU w base hp lim ob lab P u) (hn : P.nf = n + 1)
    (hov : P.ov = .slice (some ⟨go, 0, none⟩) P.m co) (hfv : P.fv = .slice (some ⟨g, 0, none⟩) (n + 1) c)
    (hB : Blk w' hp #[.int .i64 (lim : Int), .slice (some ⟨go, 0, none⟩) P.m co, .slice (some ⟨g, 0, none⟩) n c, u] 106)
    (hrow : w'.ownsRow base 117 1 (.slice (some ⟨go, 0, none⟩) P.m co) P.m (P.vals.set (P.f 0) v)) (hfree : w'.ownsRow base 3 1 (.slice (some ⟨g, 0, none⟩) n c) n (fcells n f'))
    (hk : Keeps (fun b => b = hp ∨ b = g ∨ b = go) w w') (hs : Sames (n + 1) P.f f') (hl : f' n = P.f 0) (hord : Ord f' n) (ho : ObAt w lab (P.f 0) v (some o)) (hsm : Small (some o)) :
    HeapU w' base hp lim (put ob (P.f 0) (some o)) lab { P with fv := .slice (some ⟨g, 0, none⟩) n c, nf := n, f := f', vals := P.vals.set (P.f 0) v } u := by
  obtain ⟨_, hf0, hfn⟩ := h.free_hole (by omega)
  have lo : lab go = some .objs := h.olab go (by rw [hov]; rfl)
  have lf : lab g = some .free := h.flab g (by rw [hfv]; rfl)
  have hkeep : ∀ i b l, lab b = some l → l.for = some i → ¬ (b = hp ∨ b = g ∨ b = go) := fun i b l hb hf e => by
    rcases e with e | e | e
    · subst e; rw [h.hdr] at hb; cases hb; cases hf
    · subst e; rw [lf] at hb; cases hb; cases hf
    · subst e; rw [lo] at hb; cases hb; cases hf
  have hlen : P.vals.length = P.m := by have := h.objs.1; omega
  have hinj : Inj f' (n + 1) := hs.inj (by have := h.inj; rwa [hn] at this)
  exact {
    lim1 := h.lim1
    lim2 := h.lim2
    inb := fun b l hb => ⟨(h.inb b l hb).1, Nat.lt_of_lt_of_le (h.inb b l hb).2 hk.size⟩
    hdr := h.hdr
    blk := by show Blk w' hp #[.int .i64 (lim : Int), P.ov, _, u] _; rw [hov]; exact hB
    m := h.m
    out := fun i hi => by
      have : P.m ≤ i := hi
      rw [put_other _ _ _ _ (by omega)]
      exact h.out i this
    objs := by show w'.ownsRow base _ 1 P.ov P.m _; rw [hov]; exact hrow
    olab := h.olab
    each := fun i hi => by
      have hi : i < P.m := hi
      by_cases hm : i = P.f 0
      · subst hm
        refine ⟨v, by simp [hlen, hi], ?_⟩
        rw [put_same]
        exact ho.keeps hk fun g k hg hf => ⟨hkeep _ g k hg hf, hg⟩
      · obtain ⟨v', hv', ho'⟩ := h.each i hi
        refine ⟨v', by rw [List.getElem?_set_ne (fun e => hm e.symm)]; exact hv', ?_⟩
        rw [put_other _ _ _ _ hm]
        exact ho'.keeps hk fun g k hg hf => ⟨hkeep _ g k hg hf, hg⟩
    small := fun i => by
      by_cases hm : i = P.f 0
      · subst hm; rw [put_same]; exact hsm
      · rw [put_other _ _ _ _ hm]; exact h.small i
    free := hfree
    flab := fun k hk => by
      simp only [Value.ownBlock, Option.some.injEq] at hk
      subst hk
      exact lf
    ord := hord
    inj := fun a b ha hb => hinj a b (by have : a < n := ha; omega) (by have : b < n := hb; omega)
    holes := fun x => by
      show (∃ k, k < n ∧ f' k = x) ↔ (x < P.m ∧ _)
      have hx := h.holes x
      rw [hn, ← hs.mem x] at hx
      constructor
      · rintro ⟨k, hk, hkx⟩
        have h1 := hx.1 ⟨k, by omega, hkx⟩
        have hne : x ≠ P.f 0 := fun e => by
          have := hinj k n (by omega) (by omega) (by rw [hkx, hl, e])
          omega
        rw [put_other _ _ _ _ hne]
        exact h1
      · rintro ⟨h1, h2⟩
        by_cases hne : x = P.f 0
        · subst hne; rw [put_same] at h2; cases h2
        · rw [put_other _ _ _ _ hne] at h2
          obtain ⟨k, hk, hkx⟩ := hx.2 ⟨h1, h2⟩
          refine ⟨k, ?_, hkx⟩
          rcases Nat.lt_or_ge k n with h3 | h3
          · exact h3
          · have : k = n := by omega
            subst this
            rw [hl] at hkx
            exact absurd hkx.symm hne }

/-- An object removed. -/
theorem HeapU.removed {w w' : World} {base hp lim n go co : Nat} {ob : Obs} {lab : Nat → Option Lab} {P : Parts} {u v' : Value} {o : Ob} {f' : Nat → Nat} (h : HeapU w base hp lim ob lab P u) (ho : ob n = some o)
    (hov : P.ov = .slice (some ⟨go, 0, none⟩) P.m co)
    (hB : Blk w' hp #[.int .i64 (lim : Int), .slice (some ⟨go, 0, none⟩) P.m co, v', u] 106)
    (hrow : w'.ownsRow base 117 1 (.slice (some ⟨go, 0, none⟩) P.m co) P.m (P.vals.set n .nilIface)) (hfree : w'.ownsRow base 3 1 v' (P.nf + 1) (fcells (P.nf + 1) f'))
    (hk : Keeps (fun b => b = hp ∨ b = go ∨ P.fv.ownBlock = some b) w w') (hpl : ∀ b, v'.ownBlock = some b → P.fv.ownBlock = some b ∨ w.heap.size ≤ b) (hs : Sames (P.nf + 1) (snoc P.f P.nf n) f') (hord : Ord f' (P.nf + 1)) :
    HeapU w' base hp lim (put ob n none) (fun b => if v'.ownBlock = some b then some .free else lab b) { P with fv := v', nf := P.nf + 1, f := f', vals := P.vals.set n .nilIface } u := by
  have hnm := h.has ho
  have lo : lab go = some .objs := h.olab go (by rw [hov]; rfl)
  have hl : ∀ b l, lab b = some l → l ≠ .free → v'.ownBlock ≠ some b := fun b l hb hne e => by
    rcases hpl b e with e | e
    · have := h.flab b e; rw [hb] at this; cases this; exact hne rfl
    · have := (h.inb b l hb).2; omega
  have hkeep : ∀ i b l, lab b = some l → l.for = some i → ¬ (b = hp ∨ b = go ∨ P.fv.ownBlock = some b) ∧ (if v'.ownBlock = some b then some Lab.free else lab b) = some l := fun i b l hb hf => by
    refine ⟨fun e => ?_, ?_⟩
    · rcases e with e | e | e
      · subst e; rw [h.hdr] at hb; cases hb; cases hf
      · subst e; rw [lo] at hb; cases hb; cases hf
      · have := h.flab b e; rw [hb] at this; cases this; cases hf
    · rw [if_neg (hl b l hb (fun e => by subst e; cases hf))]
      exact hb
  have hlen : P.vals.length = P.m := by have := h.objs.1; omega
  have hnot : ∀ k, k < P.nf → P.f k ≠ n := fun k hk e => by
    have := ((h.holes n).1 ⟨k, hk, e⟩).2
    rw [ho] at this; cases this
  have hinj : Inj (snoc P.f P.nf n) (P.nf + 1) := by
    intro a b ha hb hab
    unfold snoc at hab
    split at hab <;> split at hab
    · omega
    · exact absurd hab.symm (hnot b (by omega))
    · exact absurd hab (hnot a (by omega))
    · exact h.inj a b (by omega) (by omega) hab
  exact {
    lim1 := h.lim1
    lim2 := h.lim2
    inb := fun b l hb => by
      split at hb
      · rename_i e; exact hfree.lt b e
      · exact ⟨(h.inb b l hb).1, Nat.lt_of_lt_of_le (h.inb b l hb).2 hk.size⟩
    hdr := by
      show (if v'.ownBlock = some hp then some Lab.free else lab hp) = _
      rw [if_neg (hl hp _ h.hdr (by simp))]
      exact h.hdr
    blk := by show Blk w' hp #[.int .i64 (lim : Int), P.ov, _, u] _; rw [hov]; exact hB
    m := h.m
    out := fun i hi => by
      have : P.m ≤ i := hi
      rw [put_other _ _ _ _ (by omega)]
      exact h.out i this
    objs := by show w'.ownsRow base _ 1 P.ov P.m _; rw [hov]; exact hrow
    olab := fun k hk => by
      show (if v'.ownBlock = some k then some Lab.free else lab k) = _
      have hk : P.ov.ownBlock = some k := hk
      rw [if_neg (hl k _ (h.olab k hk) (by simp))]
      exact h.olab k hk
    each := fun i hi => by
      have hi : i < P.m := hi
      by_cases hm : i = n
      · subst hm
        refine ⟨.nilIface, by simp [hlen, hi], ?_⟩
        rw [put_same]
        exact rfl
      · obtain ⟨x, hx, ho'⟩ := h.each i hi
        refine ⟨x, by rw [List.getElem?_set_ne (fun e => hm e.symm)]; exact hx, ?_⟩
        rw [put_other _ _ _ _ hm]
        exact ho'.keeps hk fun g k hg hf => hkeep _ g k hg hf
    small := fun i => by
      by_cases hm : i = n
      · subst hm; rw [put_same]; trivial
      · rw [put_other _ _ _ _ hm]; exact h.small i
    free := hfree
    flab := fun k hk => by
      show (if v'.ownBlock = some k then some Lab.free else lab k) = _
      rw [if_pos hk]
    ord := hord
    inj := hs.inj hinj
    holes := fun x => by
      show (∃ k, k < P.nf + 1 ∧ f' k = x) ↔ (x < P.m ∧ _)
      rw [hs.mem x]
      have hx := h.holes x
      constructor
      · rintro ⟨k, hk, hkx⟩
        unfold snoc at hkx
        split at hkx
        · subst hkx; exact ⟨hnm, put_same _ _ _⟩
        · have h1 := hx.1 ⟨k, by omega, hkx⟩
          refine ⟨h1.1, ?_⟩
          rw [put_other _ _ _ _ (fun e => by rw [e, ho] at h1; cases h1.2)]
          exact h1.2
      · rintro ⟨h1, h2⟩
        by_cases hne : x = n
        · exact ⟨P.nf, by omega, by unfold snoc; rw [if_pos rfl, hne]⟩
        · rw [put_other _ _ _ _ hne] at h2
          obtain ⟨k, hk, hkx⟩ := hx.2 ⟨h1, h2⟩
          exact ⟨k, by omega, by unfold snoc; rw [if_neg (by omega)]; exact hkx⟩ }
end Go.Proofs.YtcdlfgggmigcnaaDoor.Rep
