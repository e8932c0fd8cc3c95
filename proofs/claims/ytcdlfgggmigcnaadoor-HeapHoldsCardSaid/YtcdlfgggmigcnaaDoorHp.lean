/- Plain mathematics of heaps of objects: words, objects, what a word refers to, what is reachable, sums of sizes. -/
import Init
namespace Go.Proofs.YtcdlfgggmigcnaaDoor.Hp

/-- A word: its kind and its number. -/
abbrev Wd := Int × Int

/-- An object. A text bears the number of its characters. -/
inductive Ob where
  | cons (a d : Wd)
  | text (s : ByteArray) (n : Nat)
  | vec (l : List Wd)
  | code (p q r : Int) (b : List Int) (l : List Wd)

def Ob.kind : Ob → Int
  | .cons .. => 2
  | .text .. => 3
  | .vec .. => 4
  | .code .. => 6
def Ob.size : Ob → Nat
  | .cons .. => 0
  | .text _ n => n
  | .vec l => l.length
  | .code _ _ _ b l => b.length + l.length
def Ob.words : Ob → List Wd
  | .cons a d => [a, d]
  | .text .. => []
  | .vec l => l
  | .code _ _ _ _ l => l

/-- The objects of a heap by their numbers. -/
abbrev Obs := Nat → Option Ob

def sizeO : Option Ob → Nat
  | some o => o.size
  | none => 0

/-- The sizes of the first n objects together. -/
def usedTo (f : Obs) : Nat → Nat
  | 0 => 0
  | n + 1 => usedTo f n + sizeO (f n)
/-- How many of the first n numbers have an object. -/
def manyTo (f : Obs) : Nat → Nat
  | 0 => 0
  | n + 1 => manyTo f n + (if (f n).isSome then 1 else 0)
/-- The first number from 0 on, below n, that has no object; n if there is none. -/
def freeTo (f : Obs) : Nat → Nat
  | 0 => 0
  | n + 1 => if freeTo f n < n then freeTo f n else if (f n).isSome then n + 1 else n

def put (f : Obs) (n : Nat) (o : Option Ob) : Obs := fun i => if i = n then o else f i

theorem put_same (f : Obs) (n : Nat) (o : Option Ob) : put f n o n = o := by simp [put]
theorem put_other (f : Obs) (n i : Nat) (o : Option Ob) (h : i ≠ n) : put f n o i = f i := by simp [put, h]

theorem usedTo_congr (f g : Obs) (n : Nat) (h : ∀ i, i < n → f i = g i) : usedTo f n = usedTo g n := by
  induction n with
  | zero => rfl
  | succ n ih => simp only [usedTo]; rw [ih fun i hi => h i (by omega), h n (by omega)]
theorem manyTo_congr (f g : Obs) (n : Nat) (h : ∀ i, i < n → f i = g i) : manyTo f n = manyTo g n := by
  induction n with
  | zero => rfl
  | succ n ih => simp only [manyTo]; rw [ih fun i hi => h i (by omega), h n (by omega)]
theorem usedTo_put (f : Obs) (n m : Nat) (o : Option Ob) (h : m < n) : usedTo (put f m o) n + sizeO (f m) = usedTo f n + sizeO o := by
  induction n with
  | zero => omega
  | succ n ih =>
    simp only [usedTo]
    by_cases hm : m = n
    · subst hm
      rw [put_same, usedTo_congr (put f m o) f m fun i hi => put_other f m i o (by omega)]
      omega
    · rw [put_other f m n o (by omega)]
      have := ih (by omega)
      omega
theorem manyTo_put (f : Obs) (n m : Nat) (o : Option Ob) (h : m < n) : manyTo (put f m o) n + (if (f m).isSome then 1 else 0) = manyTo f n + (if o.isSome then 1 else 0) := by
  induction n with
  | zero => omega
  | succ n ih =>
    simp only [manyTo]
    by_cases hm : m = n
    · subst hm
      rw [put_same, manyTo_congr (put f m o) f m fun i hi => put_other f m i o (by omega)]
      omega
    · rw [put_other f m n o (by omega)]
      have := ih (by omega)
      omega
theorem usedTo_more (f : Obs) (m n : Nat) (h : m ≤ n) (hn : ∀ i, m ≤ i → f i = none) : usedTo f n = usedTo f m := by
  induction n with
  | zero => have : m = 0 := by omega
            rw [this]
  | succ n ih =>
    by_cases hm : m = n + 1
    · rw [hm]
    · simp only [usedTo]
      rw [ih (by omega), hn n (by omega)]
      rfl
theorem manyTo_more (f : Obs) (m n : Nat) (h : m ≤ n) (hn : ∀ i, m ≤ i → f i = none) : manyTo f n = manyTo f m := by
  induction n with
  | zero => have : m = 0 := by omega
            rw [this]
  | succ n ih =>
    by_cases hm : m = n + 1
    · rw [hm]
    · simp only [manyTo]
      rw [ih (by omega), hn n (by omega)]
      rfl
theorem manyTo_le (f : Obs) (n : Nat) : manyTo f n ≤ n := by
  induction n with
  | zero => simp [manyTo]
  | succ n ih => simp only [manyTo]; split <;> omega
theorem manyTo_full (f : Obs) (n : Nat) (h : manyTo f n = n) : ∀ i, i < n → (f i).isSome = true := by
  induction n with
  | zero => intro i hi; omega
  | succ n ih =>
    have hl := manyTo_le f n
    simp only [manyTo] at h
    intro i hi
    by_cases hs : (f n).isSome
    · by_cases hin : i = n
      · subst hin; exact hs
      · rw [if_pos hs] at h
        exact ih (by omega) i (by omega)
    · rw [if_neg hs] at h; omega
theorem manyTo_all (f : Obs) (n : Nat) (h : ∀ i, i < n → (f i).isSome = true) : manyTo f n = n := by
  induction n with
  | zero => rfl
  | succ n ih =>
    simp only [manyTo]
    rw [ih fun i hi => h i (by omega), if_pos (h n (by omega))]
theorem manyTo_lt (f : Obs) (n m : Nat) (hm : m < n) (h : f m = none) : manyTo f n < n := by
  have := manyTo_le f n
  rcases Nat.lt_or_ge (manyTo f n) n with h1 | h1
  · exact h1
  · have := manyTo_full f n (by omega) m hm
    rw [h] at this
    cases this
theorem usedTo_at (f : Obs) (n m : Nat) (h : m < n) : sizeO (f m) ≤ usedTo f n := by
  induction n with
  | zero => omega
  | succ n ih =>
    simp only [usedTo]
    by_cases hm : m = n
    · subst hm; omega
    · have := ih (by omega); omega

/-- The first free number: what it is. -/
theorem freeTo_spec (f : Obs) (n : Nat) : freeTo f n ≤ n ∧ (∀ i, i < freeTo f n → (f i).isSome = true) ∧ (freeTo f n < n → f (freeTo f n) = none) := by
  induction n with
  | zero => simp [freeTo]
  | succ n ih =>
    obtain ⟨h1, h2, h3⟩ := ih
    simp only [freeTo]
    by_cases h : freeTo f n < n
    · rw [if_pos h]
      exact ⟨by omega, h2, fun _ => h3 h⟩
    · rw [if_neg h]
      have hn : freeTo f n = n := by omega
      by_cases hs : (f n).isSome = true
      · rw [if_pos hs]
        refine ⟨by omega, fun i hi => ?_, fun hh => by omega⟩
        by_cases hin : i = n
        · subst hin; exact hs
        · exact h2 i (by omega)
      · rw [if_neg hs]
        exact ⟨by omega, fun i hi => h2 i (by omega), fun _ => by simpa using hs⟩
theorem freeTo_unique (f : Obs) (n m : Nat) (hm : m ≤ n) (h1 : ∀ i, i < m → (f i).isSome = true) (h2 : m < n → f m = none) : freeTo f n = m := by
  obtain ⟨g1, g2, g3⟩ := freeTo_spec f n
  rcases Nat.lt_trichotomy (freeTo f n) m with h | h | h
  · have := h1 _ h
    rw [g3 (by omega)] at this
    cases this
  · exact h
  · have := g2 _ h
    rw [h2 (by omega)] at this
    cases this
theorem freeTo_lt_iff (f : Obs) (n : Nat) : freeTo f n < n ↔ manyTo f n ≠ n := by
  obtain ⟨g1, g2, g3⟩ := freeTo_spec f n
  constructor
  · intro h hm
    have := manyTo_full f n hm _ h
    rw [g3 h] at this
    cases this
  · intro h
    rcases Nat.lt_or_ge (freeTo f n) n with h1 | h1
    · exact h1
    · exact absurd (manyTo_all f n fun i hi => g2 i (by omega)) h

/-- The object that a word of a kind and a number refers to. -/
def findO (f : Obs) (w : Wd) : Option Ob :=
  if 0 ≤ w.2 then (match f w.2.toNat with | some o => if o.kind = w.1 then some o else none | none => none) else none

theorem findO_some {f : Obs} {w : Wd} {o : Ob} (h : findO f w = some o) : 0 ≤ w.2 ∧ f w.2.toNat = some o ∧ o.kind = w.1 := by
  unfold findO at h
  split at h
  · rename_i h0
    split at h
    · rename_i o' ho
      split at h
      · rename_i hk
        cases h
        exact ⟨h0, ho, hk⟩
      · cases h
    · cases h
  · cases h
theorem findO_mk {f : Obs} {w : Wd} {o : Ob} (h0 : 0 ≤ w.2) (h : f w.2.toNat = some o) (hk : o.kind = w.1) : findO f w = some o := by
  unfold findO
  rw [if_pos h0, h]
  simp [hk]
theorem findO_none {f : Obs} {w : Wd} (h : 0 ≤ w.2 → ∀ o, f w.2.toNat = some o → o.kind ≠ w.1) : findO f w = none := by
  cases hf : findO f w with
  | none => rfl
  | some o =>
    obtain ⟨h0, h1, h2⟩ := findO_some hf
    exact absurd h2 (h h0 o h1)

/-- What is reachable from words. -/
inductive Reach (f : Obs) (roots : List Wd) : Nat → Prop
  | root (w : Wd) (o : Ob) : w ∈ roots → findO f w = some o → Reach f roots w.2.toNat
  | step (m : Nat) (p : Ob) (w : Wd) (o : Ob) : Reach f roots m → f m = some p → w ∈ p.words → findO f w = some o → Reach f roots w.2.toNat

theorem Reach.has {f : Obs} {roots : List Wd} {n : Nat} (h : Reach f roots n) : ∃ o, f n = some o := by
  cases h with
  | root w o _ h => exact ⟨o, (findO_some h).2.1⟩
  | step m p w o _ _ _ h => exact ⟨o, (findO_some h).2.1⟩

open Classical in
/-- What a collection leaves. -/
noncomputable def collected (f : Obs) (roots : List Wd) : Obs := fun n => if Reach f roots n then f n else none

/-- Marks that are closed under 'contains' and hold the roots, and hold nothing but what is reachable, tell what a collection leaves. -/
theorem collected_of_marks (f : Obs) (roots : List Wd) (m : Nat → Bool) (h1 : ∀ n, m n = true → Reach f roots n)
    (h2 : ∀ w o, w ∈ roots → findO f w = some o → m w.2.toNat = true) (h3 : ∀ n p w o, m n = true → f n = some p → w ∈ p.words → findO f w = some o → m w.2.toNat = true) :
    ∀ n, collected f roots n = if m n = true then f n else none := by
  intro n
  have h : Reach f roots n → m n = true := by
    intro hr
    induction hr with
    | root w o hw hf => exact h2 w o hw hf
    | step a p w o _ hp hw hf ih => exact h3 a p w o ih hp hw hf
  unfold collected
  by_cases hm : m n = true
  · rw [if_pos hm, if_pos (h1 n hm)]
  · rw [if_neg hm, if_neg fun hr => hm (h hr)]
end Go.Proofs.YtcdlfgggmigcnaaDoor.Hp
