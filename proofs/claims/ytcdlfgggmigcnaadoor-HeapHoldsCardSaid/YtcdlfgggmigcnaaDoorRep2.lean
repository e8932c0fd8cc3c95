/- A heap in memory behind a change: an object replaced. -/
import Derived.Test.YtcdlfgggmigcnaaDoorRep
namespace Go.Proofs.YtcdlfgggmigcnaaDoor.Rep
open Go.RowKit
open Go.Proofs.YtcdlfgggmigcnaaDoor.Own Go.Proofs.YtcdlfgggmigcnaaDoor.Hp Go.Proofs.YtcdlfgggmigcnaaDoor.HeapOrd

/-- The blocks of a heap. -/
def Of (lab : Nat → Option Lab) (b : Nat) : Prop := lab b ≠ none
/-- The blocks of one object. -/
def OfObj (lab : Nat → Option Lab) (n : Nat) (b : Nat) : Prop := ∃ k, lab b = some k ∧ k.for = some n
theorem OfObj.of {lab : Nat → Option Lab} {n b : Nat} (h : OfObj lab n b) : Of lab b := by
  obtain ⟨k, hk, _⟩ := h
  unfold Of
  rw [hk]
  simp

theorem HeapIs.has {w : World} {base hp lim : Nat} {ob : Obs} {lab : Nat → Option Lab} {P : Parts} (h : HeapIs w base hp lim ob lab P) {n : Nat} {o : Ob} (ho : ob n = some o) : n < P.m := by
  rcases Nat.lt_or_ge n P.m with h1 | h1
  · exact h1
  · rw [h.out n h1] at ho; cases ho

theorem HeapIs.setObj {w w' : World} {base hp lim : Nat} {ob : Obs} {lab : Nat → Option Lab} {P : Parts} (h : HeapIs w base hp lim ob lab P) {n : Nat} {o o' : Ob} {v : Value} (hk : Keeps (OfObj lab n) w w')
    (ho : ob n = some o) (hs : o.size = o'.size) (hv : P.vals[n]? = some v) (hn : ObAt w' lab n v (some o')) (hsm : Small (some o')) : HeapIs w' base hp lim (put ob n (some o')) lab P := by
  have hlt := h.has ho
  have hm := h.m
  have hu : usedTo (put ob n (some o')) lim = usedTo ob lim := by
    have := usedTo_put ob lim n (some o') (by omega)
    rw [ho] at this
    simp only [sizeO] at this
    omega
  have hno : ∀ k, k.for = none → ∀ b, lab b = some k → ¬ OfObj lab n b := by
    rintro k hk b hb ⟨k', hk', hf⟩
    rw [hb] at hk'
    cases hk'
    rw [hk] at hf
    cases hf
  exact { h with
    inb := fun b l hb => ⟨(h.inb b l hb).1, Nat.lt_of_lt_of_le (h.inb b l hb).2 hk.size⟩
    blk := by rw [hu]; exact h.blk.keeps hk (hno .hdr rfl _ h.hdr)
    out := fun i hi => by rw [put_other _ _ _ _ (by omega)]; exact h.out i hi
    used := by rw [hu]; exact h.used
    objs := owns_keeps h.objs hk fun k hv => hno .objs rfl _ (h.olab k hv)
    each := fun i hi => by
      by_cases hin : i = n
      · subst hin
        exact ⟨v, hv, by rw [put_same]; exact hn⟩
      · obtain ⟨v, hv, ho⟩ := h.each i hi
        refine ⟨v, hv, ?_⟩
        rw [put_other _ _ _ _ hin]
        refine ho.keeps hk fun g k hg hf => ⟨?_, hg⟩
        rintro ⟨k', hk', hf'⟩
        rw [hg] at hk'
        cases hk'
        rw [hf] at hf'
        cases hf'
        exact hin rfl
    small := fun i => by
      by_cases hin : i = n
      · subst hin; rw [put_same]; exact hsm
      · rw [put_other _ _ _ _ hin]; exact h.small i
    free := owns_keeps h.free hk fun k hv => hno .free rfl _ (h.flab k hv)
    holes := fun x => by
      rw [h.holes x]
      by_cases hx : x = n
      · subst hx; rw [put_same, ho]; simp
      · rw [put_other _ _ _ _ hx] }
end Go.Proofs.YtcdlfgggmigcnaaDoor.Rep
