/- A heap in memory whose count of what is used is open; a new object's blocks. -/
import Derived.Test.YtcdlfgggmigcnaaDoorRep2
namespace Go.Proofs.YtcdlfgggmigcnaaDoor.Rep
open Go.RowKit
open Go.Proofs.YtcdlfgggmigcnaaDoor.Own Go.Proofs.YtcdlfgggmigcnaaDoor.Hp Go.Proofs.YtcdlfgggmigcnaaDoor.HeapOrd

structure HeapU (w : World) (base hp lim : Nat) (ob : Obs) (lab : Nat → Option Lab) (P : Parts) (u : Value) : Prop where
  lim1 : 1 ≤ lim
  lim2 : lim ≤ 65536
  inb : ∀ b l, lab b = some l → base ≤ b ∧ b < w.heap.size
  hdr : lab hp = some .hdr
  blk : Blk w hp #[.int .i64 (lim : Int), P.ov, P.fv, u] 106
  m : P.m ≤ lim
  out : ∀ i, P.m ≤ i → ob i = none
  objs : w.ownsRow base 117 1 P.ov P.m P.vals
  olab : ∀ k, P.ov.ownBlock = some k → lab k = some .objs
  each : ∀ i, i < P.m → ∃ v, P.vals[i]? = some v ∧ ObAt w lab i v (ob i)
  small : ∀ i, Small (ob i)
  free : w.ownsRow base 3 1 P.fv P.nf (fcells P.nf P.f)
  flab : ∀ k, P.fv.ownBlock = some k → lab k = some .free
  ord : Ord P.f P.nf
  inj : Inj P.f P.nf
  holes : ∀ x, (∃ k, k < P.nf ∧ P.f k = x) ↔ (x < P.m ∧ ob x = none)

theorem HeapIs.toU {w : World} {base hp lim : Nat} {ob : Obs} {lab : Nat → Option Lab} {P : Parts} (h : HeapIs w base hp lim ob lab P) : HeapU w base hp lim ob lab P (.int .i64 (usedTo ob lim : Int)) := { h with }
theorem HeapU.toIs {w : World} {base hp lim : Nat} {ob : Obs} {lab : Nat → Option Lab} {P : Parts} (h : HeapU w base hp lim ob lab P (.int .i64 (usedTo ob lim : Int))) (hu : usedTo ob lim ≤ 1048576) : HeapIs w base hp lim ob lab P := { h with used := hu }

/-- Where only the count is written, and blocks that are none of the heap's. -/
theorem HeapU.count {w w' : World} {base hp lim : Nat} {ob : Obs} {lab : Nat → Option Lab} {P : Parts} {u u' : Value} (h : HeapU w base hp lim ob lab P u) (hk : Keeps (fun b => b = hp) w w')
    (hB : Blk w' hp #[.int .i64 (lim : Int), P.ov, P.fv, u'] 106) : HeapU w' base hp lim ob lab P u' := by
  have hn : ∀ g k, lab g = some k → k ≠ .hdr → ¬ g = hp := fun g k hg hne e => by subst e; rw [h.hdr] at hg; cases hg; exact hne rfl
  exact { h with
    inb := fun b l hb => ⟨(h.inb b l hb).1, Nat.lt_of_lt_of_le (h.inb b l hb).2 hk.size⟩
    blk := hB
    objs := owns_keeps h.objs hk fun k hv => hn _ _ (h.olab k hv) (by simp)
    each := fun i hi => by
      obtain ⟨v, hv, ho⟩ := h.each i hi
      exact ⟨v, hv, ho.keeps hk fun g k hg hf => ⟨hn g k hg (fun e => by subst e; cases hf), hg⟩⟩
    free := owns_keeps h.free hk fun k hv => hn _ _ (h.flab k hv) (by simp) }

/-- Labels for the blocks of an object that is to come. -/
def both (labO lab : Nat → Option Lab) (b : Nat) : Option Lab := match labO b with | some l => some l | none => lab b
/-- They are for a number that has no object, and lie apart. -/
structure NewLab (w : World) (base n : Nat) (labO lab : Nat → Option Lab) : Prop where
  apart : ∀ b l, labO b = some l → lab b = none ∧ base ≤ b ∧ b < w.heap.size
  for_ : ∀ b l, labO b = some l → l.for = some n
theorem both_old {labO lab : Nat → Option Lab} {b : Nat} {l : Lab} {w : World} {base n : Nat} (h : NewLab w base n labO lab) (hb : lab b = some l) : both labO lab b = some l := by
  unfold both
  cases ho : labO b with
  | none => exact hb
  | some l' =>
    have := (h.apart b l' ho).1
    rw [hb] at this
    cases this
theorem both_new {labO lab : Nat → Option Lab} {b : Nat} {l : Lab} (hb : labO b = some l) : both labO lab b = some l := by
  unfold both
  rw [hb]
theorem HeapU.addLab {w : World} {base hp lim n : Nat} {ob : Obs} {lab labO : Nat → Option Lab} {P : Parts} {u : Value} (h : HeapU w base hp lim ob lab P u) (hn : NewLab w base n labO lab) : HeapU w base hp lim ob (both labO lab) P u :=
  { h with
    inb := fun b l hb => by
      unfold both at hb
      cases ho : labO b with
      | none => rw [ho] at hb; exact h.inb b l hb
      | some l' => exact (hn.apart b l' ho).2
    hdr := both_old hn h.hdr
    olab := fun k hk => both_old hn (h.olab k hk)
    each := fun i hi => by
      obtain ⟨v, hv, ho⟩ := h.each i hi
      exact ⟨v, hv, ho.keeps (F := fun _ => False) (Keeps.refl _ w) fun g k hg _ => ⟨id, both_old hn hg⟩⟩
    flab := fun k hk => both_old hn (h.flab k hk) }
theorem ObAt.both {w : World} {labO lab : Nat → Option Lab} {n : Nat} {v : Value} {o : Option Ob} (h : ObAt w labO n v o) : ObAt w (both labO lab) n v o :=
  h.keeps (F := fun _ => False) (Keeps.refl _ w) fun _ _ hg _ => ⟨id, both_new hg⟩

theorem HeapU.has {w : World} {base hp lim : Nat} {ob : Obs} {lab : Nat → Option Lab} {P : Parts} {u : Value} (h : HeapU w base hp lim ob lab P u) {n : Nat} {o : Ob} (ho : ob n = some o) : n < P.m := by
  rcases Nat.lt_or_ge n P.m with h1 | h1
  · exact h1
  · rw [h.out n h1] at ho; cases ho

/-- An object behind the last one. -/
theorem HeapU.placeEnd {w w' : World} {base hp lim : Nat} {ob : Obs} {lab : Nat → Option Lab} {P : Parts} {u ov' v : Value} {o : Ob} (h : HeapU w base hp lim ob lab P u) (hnf : P.nf = 0) (hlt : P.m < lim)
    (hB : Blk w' hp #[.int .i64 (lim : Int), ov', P.fv, u] 106) (hrow : w'.ownsRow base 117 1 ov' (P.m + 1) (P.vals ++ [v])) (hk : Keeps (fun b => b = hp ∨ P.ov.ownBlock = some b) w w')
    (hpl : ∀ b, ov'.ownBlock = some b → P.ov.ownBlock = some b ∨ w.heap.size ≤ b) (_hb : base ≤ w.heap.size) (ho : ObAt w lab P.m v (some o)) (hs : Small (some o)) :
    HeapU w' base hp lim (put ob P.m (some o)) (fun b => if ov'.ownBlock = some b then some .objs else lab b) { P with m := P.m + 1, ov := ov', vals := P.vals ++ [v] } u := by
  have hl : ∀ b l, lab b = some l → l ≠ .objs → ov'.ownBlock ≠ some b := fun b l hb hne e => by
    rcases hpl b e with e | e
    · have := h.olab b e; rw [hb] at this; cases this; exact hne rfl
    · have := (h.inb b l hb).2; omega
  have hkeep : ∀ b l, lab b = some l → l ≠ .objs → l ≠ .hdr → ¬ (b = hp ∨ P.ov.ownBlock = some b) := fun b l hb h1 h2 e => by
    rcases e with e | e
    · subst e; rw [h.hdr] at hb; cases hb; exact h2 rfl
    · have := h.olab b e; rw [hb] at this; cases this; exact h1 rfl
  have hfor : ∀ i b l, lab b = some l → l.for = some i → l ≠ .objs ∧ l ≠ .hdr := fun i b l _ hf => by constructor <;> (intro e; subst e; cases hf)
  have hobs : ∀ i v', ObAt w lab i v' (ob i) → ObAt w' (fun b => if ov'.ownBlock = some b then some Lab.objs else lab b) i v' (ob i) := fun i v' ho => ho.keeps hk fun g k hg hf => by
    obtain ⟨a, b⟩ := hfor i g k hg hf
    refine ⟨hkeep g k hg a b, ?_⟩
    show (if ov'.ownBlock = some g then some Lab.objs else lab g) = some k
    rw [if_neg (hl g k hg a)]
    exact hg
  have hlen : P.vals.length = P.m := by have := h.objs.1; omega
  exact {
    lim1 := h.lim1
    lim2 := h.lim2
    inb := fun b l hb' => by
      split at hb'
      · rename_i e
        have h1 : base ≤ b ∧ b < w'.heap.size := hrow.lt b e
        exact h1
      · exact ⟨(h.inb b l hb').1, Nat.lt_of_lt_of_le (h.inb b l hb').2 hk.size⟩
    hdr := by
      show (if ov'.ownBlock = some hp then some Lab.objs else lab hp) = _
      rw [if_neg (hl hp _ h.hdr (by simp))]
      exact h.hdr
    blk := hB
    m := by show P.m + 1 ≤ lim; omega
    out := fun i hi => by
      have : P.m + 1 ≤ i := hi
      rw [put_other _ _ _ _ (by omega)]
      exact h.out i (by omega)
    objs := hrow
    olab := fun k hk => by
      show (if ov'.ownBlock = some k then some Lab.objs else lab k) = _
      rw [if_pos hk]
    each := fun i hi => by
      have hi : i < P.m + 1 := hi
      by_cases hm : i = P.m
      · subst hm
        refine ⟨v, by simp [hlen], ?_⟩
        rw [put_same]
        exact ho.keeps hk fun g k hg hf => by
          obtain ⟨a, b⟩ := hfor _ g k hg hf
          refine ⟨hkeep g k hg a b, ?_⟩
          show (if ov'.ownBlock = some g then some Lab.objs else lab g) = some k
          rw [if_neg (hl g k hg a)]
          exact hg
      · obtain ⟨v', hv', ho'⟩ := h.each i (by omega)
        refine ⟨v', by rw [List.getElem?_append_left (by omega)]; exact hv', ?_⟩
        rw [put_other _ _ _ _ hm]
        exact hobs i v' ho'
    small := fun i => by
      by_cases hm : i = P.m
      · subst hm; rw [put_same]; exact hs
      · rw [put_other _ _ _ _ hm]; exact h.small i
    free := owns_keeps h.free hk fun k hv => hkeep k _ (h.flab k hv) (by simp) (by simp)
    flab := fun k hv => by
      show (if ov'.ownBlock = some k then some Lab.objs else lab k) = _
      rw [if_neg (hl k _ (h.flab k hv) (by simp))]
      exact h.flab k hv
    ord := h.ord
    inj := h.inj
    holes := fun x => by
      show (∃ k, k < P.nf ∧ P.f k = x) ↔ _
      constructor
      · rintro ⟨k, hk, _⟩; omega
      · rintro ⟨hx, hxn⟩
        have hx : x < P.m + 1 := hx
        exfalso
        by_cases hm : x = P.m
        · subst hm; rw [put_same] at hxn; cases hxn
        · rw [put_other _ _ _ _ hm] at hxn
          obtain ⟨k, hk, _⟩ := (h.holes x).2 ⟨by omega, hxn⟩
          omega }
end Go.Proofs.YtcdlfgggmigcnaaDoor.Rep
