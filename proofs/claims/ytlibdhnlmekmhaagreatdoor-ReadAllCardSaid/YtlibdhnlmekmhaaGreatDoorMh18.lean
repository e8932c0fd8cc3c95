/- Plain mathematics of heaps of objects: words, objects, what a word refers to, what is reachable, sums of sizes. | Plain mathematics of package container/heap: sifting up and down in a row of numbers. | How a heap of package heap lies in memory. | A heap in memory behind a change: an object replaced. | A heap in memory whose count of what is used is open; a new object's blocks. -/
import Init
import Derived.Test.YtlibdhnlmekmhaaGreatDoorMh16
/- Plain mathematics of heaps of objects: words, objects, what a word refers to, what is reachable, sums of sizes. -/
section
namespace Go.Proofs.YtlibdhnlmekmhaaGreatDoor.Hp

/-- A word: its kind and its number. -/
abbrev Wd := Int × Int

/-- An object. A text bears the number of its characters. -/
inductive Ob where
  | cons (a d : Wd)
  | text (s : ByteArray) (n : Nat)
  | vec (l : List Wd)
  | code (p q r : Int) (b : List Int) (l : List Wd)

def Ob.kind : Ob → Int
  | .cons .. => 2
  | .text .. => 3
  | .vec .. => 4
  | .code .. => 6
def Ob.size : Ob → Nat
  | .cons .. => 0
  | .text _ n => n
  | .vec l => l.length
  | .code _ _ _ b l => b.length + l.length
def Ob.words : Ob → List Wd
  | .cons a d => [a, d]
  | .text .. => []
  | .vec l => l
  | .code _ _ _ _ l => l

/-- The objects of a heap by their numbers. -/
abbrev Obs := Nat → Option Ob

def sizeO : Option Ob → Nat
  | some o => o.size
  | none => 0

/-- The sizes of the first n objects together. -/
def usedTo (f : Obs) : Nat → Nat
  | 0 => 0
  | n + 1 => usedTo f n + sizeO (f n)
/-- How many of the first n numbers have an object. -/
def manyTo (f : Obs) : Nat → Nat
  | 0 => 0
  | n + 1 => manyTo f n + (if (f n).isSome then 1 else 0)
/-- The first number from 0 on, below n, that has no object; n if there is none. -/
def freeTo (f : Obs) : Nat → Nat
  | 0 => 0
  | n + 1 => if freeTo f n < n then freeTo f n else if (f n).isSome then n + 1 else n

def put (f : Obs) (n : Nat) (o : Option Ob) : Obs := fun i => if i = n then o else f i

theorem put_same (f : Obs) (n : Nat) (o : Option Ob) : put f n o n = o := by simp [put]
theorem put_other (f : Obs) (n i : Nat) (o : Option Ob) (h : i ≠ n) : put f n o i = f i := by simp [put, h]

theorem usedTo_congr (f g : Obs) (n : Nat) (h : ∀ i, i < n → f i = g i) : usedTo f n = usedTo g n := by
  induction n with
  | zero => rfl
  | succ n ih => simp only [usedTo]; rw [ih fun i hi => h i (by omega), h n (by omega)]
theorem manyTo_congr (f g : Obs) (n : Nat) (h : ∀ i, i < n → f i = g i) : manyTo f n = manyTo g n := by
  induction n with
  | zero => rfl
  | succ n ih => simp only [manyTo]; rw [ih fun i hi => h i (by omega), h n (by omega)]
theorem usedTo_put (f : Obs) (n m : Nat) (o : Option Ob) (h : m < n) : usedTo (put f m o) n + sizeO (f m) = usedTo f n + sizeO o := by
  induction n with
  | zero => omega
  | succ n ih =>
    simp only [usedTo]
    by_cases hm : m = n
    · subst hm
      rw [put_same, usedTo_congr (put f m o) f m fun i hi => put_other f m i o (by omega)]
      omega
    · rw [put_other f m n o (by omega)]
      have := ih (by omega)
      omega
theorem manyTo_put (f : Obs) (n m : Nat) (o : Option Ob) (h : m < n) : manyTo (put f m o) n + (if (f m).isSome then 1 else 0) = manyTo f n + (if o.isSome then 1 else 0) := by
  induction n with
  | zero => omega
  | succ n ih =>
    simp only [manyTo]
    by_cases hm : m = n
    · subst hm
      rw [put_same, manyTo_congr (put f m o) f m fun i hi => put_other f m i o (by omega)]
      omega
    · rw [put_other f m n o (by omega)]
      have := ih (by omega)
      omega
theorem usedTo_more (f : Obs) (m n : Nat) (h : m ≤ n) (hn : ∀ i, m ≤ i → f i = none) : usedTo f n = usedTo f m := by
  induction n with
  | zero => have : m = 0 := by omega
            rw [this]
  | succ n ih =>
    by_cases hm : m = n + 1
    · rw [hm]
    · simp only [usedTo]
      rw [ih (by omega), hn n (by omega)]
      rfl
theorem manyTo_more (f : Obs) (m n : Nat) (h : m ≤ n) (hn : ∀ i, m ≤ i → f i = none) : manyTo f n = manyTo f m := by
  induction n with
  | zero => have : m = 0 := by omega
            rw [this]
  | succ n ih =>
    by_cases hm : m = n + 1
    · rw [hm]
    · simp only [manyTo]
      rw [ih (by omega), hn n (by omega)]
      rfl
theorem manyTo_le (f : Obs) (n : Nat) : manyTo f n ≤ n := by
  induction n with
  | zero => simp [manyTo]
  | succ n ih => simp only [manyTo]; split <;> omega
theorem manyTo_full (f : Obs) (n : Nat) (h : manyTo f n = n) : ∀ i, i < n → (f i).isSome = true := by
  induction n with
  | zero => intro i hi; omega
  | succ n ih =>
    have hl := manyTo_le f n
    simp only [manyTo] at h
    intro i hi
    by_cases hs : (f n).isSome
    · by_cases hin : i = n
      · subst hin; exact hs
      · rw [if_pos hs] at h
        exact ih (by omega) i (by omega)
    · rw [if_neg hs] at h; omega
theorem manyTo_all (f : Obs) (n : Nat) (h : ∀ i, i < n → (f i).isSome = true) : manyTo f n = n := by
  induction n with
  | zero => rfl
  | succ n ih =>
    simp only [manyTo]
    rw [ih fun i hi => h i (by omega), if_pos (h n (by omega))]
theorem manyTo_lt (f : Obs) (n m : Nat) (hm : m < n) (h : f m = none) : manyTo f n < n := by
  have := manyTo_le f n
  rcases Nat.lt_or_ge (manyTo f n) n with h1 | h1
  · exact h1
  · have := manyTo_full f n (by omega) m hm
    rw [h] at this
    cases this
theorem usedTo_at (f : Obs) (n m : Nat) (h : m < n) : sizeO (f m) ≤ usedTo f n := by
  induction n with
  | zero => omega
  | succ n ih =>
    simp only [usedTo]
    by_cases hm : m = n
    · subst hm; omega
    · have := ih (by omega); omega

/-- The first free number: what it is. -/
theorem freeTo_spec (f : Obs) (n : Nat) : freeTo f n ≤ n ∧ (∀ i, i < freeTo f n → (f i).isSome = true) ∧ (freeTo f n < n → f (freeTo f n) = none) := by
  induction n with
  | zero => simp [freeTo]
  | succ n ih =>
    obtain ⟨h1, h2, h3⟩ := ih
    simp only [freeTo]
    by_cases h : freeTo f n < n
    · rw [if_pos h]
      exact ⟨by omega, h2, fun _ => h3 h⟩
    · rw [if_neg h]
      have hn : freeTo f n = n := by omega
      by_cases hs : (f n).isSome = true
      · rw [if_pos hs]
        refine ⟨by omega, fun i hi => ?_, fun hh => by omega⟩
        by_cases hin : i = n
        · subst hin; exact hs
        · exact h2 i (by omega)
      · rw [if_neg hs]
        exact ⟨by omega, fun i hi => h2 i (by omega), fun _ => by simpa using hs⟩
theorem freeTo_unique (f : Obs) (n m : Nat) (hm : m ≤ n) (h1 : ∀ i, i < m → (f i).isSome = true) (h2 : m < n → f m = none) : freeTo f n = m := by
  obtain ⟨g1, g2, g3⟩ := freeTo_spec f n
  rcases Nat.lt_trichotomy (freeTo f n) m with h | h | h
  · have := h1 _ h
    rw [g3 (by omega)] at this
    cases this
  · exact h
  · have := g2 _ h
    rw [h2 (by omega)] at this
    cases this
theorem freeTo_lt_iff (f : Obs) (n : Nat) : freeTo f n < n ↔ manyTo f n ≠ n := by
  obtain ⟨g1, g2, g3⟩ := freeTo_spec f n
  constructor
  · intro h hm
    have := manyTo_full f n hm _ h
    rw [g3 h] at this
    cases this
  · intro h
    rcases Nat.lt_or_ge (freeTo f n) n with h1 | h1
    · exact h1
    · exact absurd (manyTo_all f n fun i hi => g2 i (by omega)) h

/-- The object that a word of a kind and a number refers to. -/
def findO (f : Obs) (w : Wd) : Option Ob :=
  if 0 ≤ w.2 then (match f w.2.toNat with | some o => if o.kind = w.1 then some o else none | none => none) else none

theorem findO_some {f : Obs} {w : Wd} {o : Ob} (h : findO f w = some o) : 0 ≤ w.2 ∧ f w.2.toNat = some o ∧ o.kind = w.1 := by
  unfold findO at h
  split at h
  · rename_i h0
    split at h
    · rename_i o' ho
      split at h
      · rename_i hk
        cases h
        exact ⟨h0, ho, hk⟩
      · cases h
    · cases h
  · cases h
theorem findO_mk {f : Obs} {w : Wd} {o : Ob} (h0 : 0 ≤ w.2) (h : f w.2.toNat = some o) (hk : o.kind = w.1) : findO f w = some o := by
  unfold findO
  rw [if_pos h0, h]
  simp [hk]
theorem findO_none {f : Obs} {w : Wd} (h : 0 ≤ w.2 → ∀ o, f w.2.toNat = some o → o.kind ≠ w.1) : findO f w = none := by
  cases hf : findO f w with
  | none => rfl
  | some o =>
    obtain ⟨h0, h1, h2⟩ := findO_some hf
    exact absurd h2 (h h0 o h1)

/-- What is reachable from words. -/
inductive Reach (f : Obs) (roots : List Wd) : Nat → Prop
  | root (w : Wd) (o : Ob) : w ∈ roots → findO f w = some o → Reach f roots w.2.toNat
  | step (m : Nat) (p : Ob) (w : Wd) (o : Ob) : Reach f roots m → f m = some p → w ∈ p.words → findO f w = some o → Reach f roots w.2.toNat

theorem Reach.has {f : Obs} {roots : List Wd} {n : Nat} (h : Reach f roots n) : ∃ o, f n = some o := by
  cases h with
  | root w o _ h => exact ⟨o, (findO_some h).2.1⟩
  | step m p w o _ _ _ h => exact ⟨o, (findO_some h).2.1⟩

open Classical in
/-- What a collection leaves. -/
noncomputable def collected (f : Obs) (roots : List Wd) : Obs := fun n => if Reach f roots n then f n else none

/-- Marks that are closed under 'contains' and hold the roots, and hold nothing but what is reachable, tell what a collection leaves. -/
theorem collected_of_marks (f : Obs) (roots : List Wd) (m : Nat → Bool) (h1 : ∀ n, m n = true → Reach f roots n)
    (h2 : ∀ w o, w ∈ roots → findO f w = some o → m w.2.toNat = true) (h3 : ∀ n p w o, m n = true → f n = some p → w ∈ p.words → findO f w = some o → m w.2.toNat = true) :
    ∀ n, collected f roots n = if m n = true then f n else none := by
  intro n
  have h : Reach f roots n → m n = true := by
    intro hr
    induction hr with
    | root w o hw hf => exact h2 w o hw hf
    | step a p w o _ hp hw hf ih => exact h3 a p w o ih hp hw hf
  unfold collected
  by_cases hm : m n = true
  · rw [if_pos hm, if_pos (h1 n hm)]
  · rw [if_neg hm, if_neg fun hr => hm (h hr)]
end Go.Proofs.YtlibdhnlmekmhaaGreatDoor.Hp
end

/- Plain mathematics of package container/heap: sifting up and down in a row of numbers. -/
section
namespace Go.Proofs.YtlibdhnlmekmhaaGreatDoor.HeapOrd

/-- No number is less than the one at its parent's index. -/
def Ord (f : Nat → Nat) (n : Nat) : Prop := ∀ k, 0 < k → k < n → f ((k - 1) / 2) ≤ f k
def swap (f : Nat → Nat) (i j : Nat) : Nat → Nat := fun k => if k = i then f j else if k = j then f i else f k
def Inj (f : Nat → Nat) (n : Nat) : Prop := ∀ a b, a < n → b < n → f a = f b → a = b
/-- The same numbers, in another order. -/
structure Sames (n : Nat) (f g : Nat → Nat) : Prop where
  mem : ∀ x, (∃ k, k < n ∧ g k = x) ↔ (∃ k, k < n ∧ f k = x)
  inj : Inj f n → Inj g n

theorem Sames.refl (n : Nat) (f : Nat → Nat) : Sames n f f := ⟨fun _ => Iff.rfl, id⟩
theorem Sames.trans {n : Nat} {f g h : Nat → Nat} (a : Sames n f g) (b : Sames n g h) : Sames n f h := ⟨fun x => (b.mem x).trans (a.mem x), fun hi => b.inj (a.inj hi)⟩

theorem swap_at (f : Nat → Nat) (i j k : Nat) : swap f i j k = f (if k = i then j else if k = j then i else k) := by
  unfold swap; split <;> (try split) <;> rfl
theorem swap_ne (f : Nat → Nat) {i j k : Nat} (h1 : k ≠ i) (h2 : k ≠ j) : swap f i j k = f k := by simp [swap, h1, h2]
theorem swap_left (f : Nat → Nat) (i j : Nat) : swap f i j i = f j := by simp [swap]
theorem swap_right (f : Nat → Nat) (i j : Nat) : swap f i j j = f i := by
  unfold swap; split <;> simp_all

theorem sames_swap (n : Nat) (f : Nat → Nat) (i j : Nat) (hi : i < n) (hj : j < n) : Sames n f (swap f i j) := by
  constructor
  · intro x
    constructor
    · rintro ⟨k, hk, rfl⟩
      rw [swap_at]
      refine ⟨_, ?_, rfl⟩
      split <;> (try split) <;> omega
    · rintro ⟨k, hk, rfl⟩
      refine ⟨if k = i then j else if k = j then i else k, by split <;> (try split) <;> omega, ?_⟩
      rw [swap_at]
      congr 1
      split <;> (try split) <;> (try split) <;> (try split) <;> omega
  · intro h a b ha hb hab
    rw [swap_at, swap_at] at hab
    have := h _ _ (by split <;> (try split) <;> omega) (by split <;> (try split) <;> omega) hab
    split at this <;> (try split at this) <;> (try split at this) <;> (try split at this) <;> omega

structure UpInv (f : Nat → Nat) (n j : Nat) : Prop where
  lt : j < n
  other : ∀ k, 0 < k → k < n → k ≠ j → f ((k - 1) / 2) ≤ f k
  under : ∀ k, 0 < k → k < n → (k - 1) / 2 = j → 0 < j → f ((j - 1) / 2) ≤ f k

theorem UpInv.stop {f : Nat → Nat} {n j : Nat} (h : UpInv f n j) (hj : j = 0 ∨ f ((j - 1) / 2) ≤ f j) : Ord f n := by
  intro k h0 hk
  by_cases e : k = j
  · subst e
    rcases hj with hj | hj
    · omega
    · exact hj
  · exact h.other k h0 hk e
theorem UpInv.step {f : Nat → Nat} {n j : Nat} (h : UpInv f n j) (h0 : 0 < j) (hj : f j < f ((j - 1) / 2)) : UpInv (swap f ((j - 1) / 2) j) n ((j - 1) / 2) := by
  have hlt := h.lt
  generalize hi : (j - 1) / 2 = i at *
  have hij : i < j := by omega
  refine ⟨by omega, ?_, ?_⟩
  · intro k hk0 hk hki
    by_cases hkj : k = j
    · subst hkj
      rw [hi, swap_left, swap_right]
      omega
    · rw [swap_ne f hki hkj]
      by_cases hp : (k - 1) / 2 = j
      · rw [hp, swap_right]
        have := h.under k hk0 hk hp h0
        rwa [hi] at this
      · by_cases hp2 : (k - 1) / 2 = i
        · rw [hp2, swap_left]
          have := h.other k hk0 hk hkj
          rw [hp2] at this
          omega
        · rw [swap_ne f hp2 hp]
          exact h.other k hk0 hk hkj
  · intro k hk0 hk hp hi0
    have hpi : (i - 1) / 2 ≠ i := by omega
    have hpj : (i - 1) / 2 ≠ j := by omega
    rw [swap_ne f hpi hpj]
    have h1 := h.other i hi0 (by omega) (by omega)
    by_cases hkj : k = j
    · subst hkj
      rw [swap_right]
      exact h1
    · rw [swap_ne f (by omega) hkj]
      have := h.other k hk0 hk hkj
      rw [hp] at this
      omega

structure DownInv (f : Nat → Nat) (n i : Nat) : Prop where
  other : ∀ k, 0 < k → k < n → (k - 1) / 2 ≠ i → f ((k - 1) / 2) ≤ f k
  under : ∀ k, 0 < k → k < n → (k - 1) / 2 = i → 0 < i → f ((i - 1) / 2) ≤ f k

theorem DownInv.leaf {f : Nat → Nat} {n i : Nat} (h : DownInv f n i) (hi : n ≤ 2 * i + 1) : Ord f n := fun k h0 hk => h.other k h0 hk (by omega)
theorem DownInv.stop {f : Nat → Nat} {n i : Nat} (h : DownInv f n i) (h1 : 2 * i + 1 < n → f i ≤ f (2 * i + 1)) (h2 : 2 * i + 2 < n → f i ≤ f (2 * i + 2)) : Ord f n := by
  intro k h0 hk
  by_cases e : (k - 1) / 2 = i
  · rw [e]
    rcases (by omega : k = 2 * i + 1 ∨ k = 2 * i + 2) with rfl | rfl
    · exact h1 hk
    · exact h2 hk
  · exact h.other k h0 hk e
/-- The lesser child goes up. -/
theorem DownInv.step {f : Nat → Nat} {n i j : Nat} (h : DownInv f n i) (hj : j < n) (hc : j = 2 * i + 1 ∨ j = 2 * i + 2) (hlt : f j < f i)
    (h1 : f j ≤ f (2 * i + 1)) (h2 : 2 * i + 2 < n → f j ≤ f (2 * i + 2)) : DownInv (swap f i j) n j := by
  constructor
  · intro k hk0 hk hp
    by_cases hki : k = i
    · subst hki
      rw [swap_left, swap_ne f (by omega) (by omega)]
      exact h.under j (by omega) hj (by omega) hk0
    · by_cases hp2 : (k - 1) / 2 = i
      · rw [hp2, swap_left]
        by_cases hkj : k = j
        · subst hkj; rw [swap_right]; omega
        · rw [swap_ne f hki hkj]
          rcases (by omega : k = 2 * i + 1 ∨ k = 2 * i + 2) with rfl | rfl
          · exact h1
          · exact h2 hk
      · rw [swap_ne f hp2 hp]
        by_cases hkj : k = j
        · omega
        · rw [swap_ne f hki hkj]
          exact h.other k hk0 hk hp2
  · intro k hk0 hk hp hj0
    have e : (j - 1) / 2 = i := by omega
    rw [e, swap_left, swap_ne f (by omega) (by omega)]
    have := h.other k hk0 hk (by omega)
    rwa [hp] at this

/-- The first number is the least. -/
theorem Ord.least {f : Nat → Nat} {n : Nat} (h : Ord f n) : ∀ k, k < n → f 0 ≤ f k := by
  intro k
  induction k using Nat.strongRecOn with
  | _ k ih =>
    intro hk
    by_cases h0 : k = 0
    · subst h0; exact Nat.le_refl _
    · exact Nat.le_trans (ih ((k - 1) / 2) (by omega) (by omega)) (h k (by omega) hk)
/-- A number put behind the last one: sift it up. -/
theorem Ord.push {f : Nat → Nat} {n : Nat} (h : Ord f n) : UpInv f (n + 1) n := ⟨by omega, fun k h0 hk hn => h k h0 (by omega), fun k h0 hk hp _ => by omega⟩
/-- The last number brought to the front: sift it down. -/
theorem Ord.pop {f : Nat → Nat} {n : Nat} (h : Ord f (n + 1)) : DownInv (swap f 0 n) n 0 := by
  constructor
  · intro k h0 hk hp
    rw [swap_ne f hp (by omega), swap_ne f (by omega) (by omega)]
    exact h k h0 (by omega)
  · intro k _ _ _ h0
    omega
/-- Numbers that are told by a row without repetition are as many as those that a test finds. -/
theorem count_of_row (f : Nat → Nat) (n m : Nat) (p : Nat → Bool) (hi : Inj f n) (hm : ∀ x, (∃ k, k < n ∧ f k = x) ↔ (x < m ∧ p x = true)) : n = ((List.range m).filter p).length := by
  have hp : ((List.range n).map f).Perm ((List.range m).filter p) := by
    apply (List.perm_ext_iff_of_nodup ?_ ?_).2
    · intro x
      simp only [List.mem_map, List.mem_range, List.mem_filter]
      exact hm x
    · rw [List.nodup_iff_pairwise_ne, List.pairwise_map]
      apply List.Pairwise.imp_of_mem ?_ (List.nodup_range (n := n))
      intro a b ha hb hne hab
      exact hne (hi a b (List.mem_range.1 ha) (List.mem_range.1 hb) hab)
    · exact List.Nodup.sublist List.filter_sublist List.nodup_range
  have := hp.length_eq
  simpa using this
end Go.Proofs.YtlibdhnlmekmhaaGreatDoor.HeapOrd
end

/- How a heap of package heap lies in memory. -/
section
namespace Go.Proofs.YtlibdhnlmekmhaaGreatDoor.Rep
open Go.RowKit
open Go.Proofs.YtlibdhnlmekmhaaGreatDoor.Own Go.Proofs.YtlibdhnlmekmhaaGreatDoor.Hp Go.Proofs.YtlibdhnlmekmhaaGreatDoor.HeapOrd

/-- What a block of a heap is for. -/
inductive Lab where
  | hdr
  | objs
  | free
  | obj (n : Nat)
  | row (n : Nat)
  | bytes (n : Nat)

/-- A word by value. -/
abbrev wd (w : Wd) : Value := .agg #[.int .i64 w.1, .int .i64 w.2]
/-- Words in memory, two cells each. -/
def wcells : List Wd → List Value
  | [] => []
  | x :: l => .int .i64 x.1 :: .int .i64 x.2 :: wcells l
def bcells (l : List Int) : List Value := l.map (Value.int .u8)
/-- A slice of some elements whose cells lie in a block of their own. -/
def SlAt (w : World) (lab : Nat → Option Lab) (k : Lab) (v : Value) (n : Nat) (xs : List Value) : Prop :=
  ∃ A cap, v = .slice A n cap ∧ n ≤ cap ∧ (0 < n → ∃ g, A = some ⟨g, 0, none⟩ ∧ lab g = some k ∧ Row w g xs)

/-- How an object lies in memory. -/
def ObAt (w : World) (lab : Nat → Option Lab) (n : Nat) (v : Value) : Option Ob → Prop
  | none => v = .nilIface
  | some (.cons a d) => ∃ g, v = .iface 93 (.pointer (some ⟨g, 0, none⟩)) ∧ lab g = some (.obj n) ∧ Blk w g #[.int .i64 a.1, .int .i64 a.2, .int .i64 d.1, .int .i64 d.2] 97
  | some (.text s k) => ∃ g, v = .iface 110 (.pointer (some ⟨g, 0, none⟩)) ∧ lab g = some (.obj n) ∧ Blk w g #[.string s, .int .i64 (k : Int)] 114
  | some (.vec l) => ∃ g r, v = .iface 189 (.pointer (some ⟨g, 0, none⟩)) ∧ lab g = some (.obj n) ∧ Blk w g #[r] 193 ∧ SlAt w lab (.row n) r l.length (wcells l)
  | some (.code p q z b l) => ∃ g rb rl, v = .iface 190 (.pointer (some ⟨g, 0, none⟩)) ∧ lab g = some (.obj n) ∧ Blk w g #[.int .i64 p, .int .i64 q, .int .i64 z, rb, rl] 289 ∧ SlAt w lab (.bytes n) rb b.length (bcells b) ∧ SlAt w lab (.row n) rl l.length (wcells l)

/-- An object is no greater than one may be. -/
def Small : Option Ob → Prop
  | some (.text _ k) => k ≤ 65536
  | some (.vec l) => l.length ≤ 65536
  | some (.code _ _ _ b l) => b.length ≤ 65536 ∧ l.length ≤ 65536
  | _ => True

/-- The parts of a heap: the slice of its objects, that of its free numbers, the latter's numbers. -/
structure Parts where
  m : Nat
  ov : Value
  fv : Value
  vals : List Value
  nf : Nat
  f : Nat → Nat

def fcells (n : Nat) (f : Nat → Nat) : List Value := (List.range n).map fun k => .int .i64 (f k : Int)

/-- A heap in memory: its header's block, its limit, its objects by their numbers, what its blocks are for. -/
structure HeapIs (w : World) (base hp lim : Nat) (ob : Obs) (lab : Nat → Option Lab) (P : Parts) : Prop where
  lim1 : 1 ≤ lim
  lim2 : lim ≤ 65536
  inb : ∀ b l, lab b = some l → base ≤ b ∧ b < w.heap.size
  hdr : lab hp = some .hdr
  blk : Blk w hp #[.int .i64 (lim : Int), P.ov, P.fv, .int .i64 (usedTo ob lim : Int)] 105
  m : P.m ≤ lim
  out : ∀ i, P.m ≤ i → ob i = none
  used : usedTo ob lim ≤ 1048576
  objs : w.ownsRow base 148 1 P.ov P.m P.vals
  olab : ∀ k, P.ov.ownBlock = some k → lab k = some .objs
  each : ∀ i, i < P.m → ∃ v, P.vals[i]? = some v ∧ ObAt w lab i v (ob i)
  small : ∀ i, Small (ob i)
  free : w.ownsRow base 3 1 P.fv P.nf (fcells P.nf P.f)
  flab : ∀ k, P.fv.ownBlock = some k → lab k = some .free
  ord : Ord P.f P.nf
  inj : Inj P.f P.nf
  holes : ∀ x, (∃ k, k < P.nf ∧ P.f k = x) ↔ (x < P.m ∧ ob x = none)

def HeapAt (w : World) (base hp lim : Nat) (ob : Obs) (lab : Nat → Option Lab) : Prop := ∃ P, HeapIs w base hp lim ob lab P

theorem SlAt.keeps {F : Nat → Prop} {w w' : World} {lab lab' : Nat → Option Lab} {k : Lab} {v : Value} {n : Nat} {xs : List Value} (h : SlAt w lab k v n xs) (hk : Keeps F w w') (hl : ∀ g, lab g = some k → ¬ F g ∧ lab' g = some k) : SlAt w' lab' k v n xs := by
  obtain ⟨A, cap, hv, hc, hr⟩ := h
  refine ⟨A, cap, hv, hc, fun h0 => ?_⟩
  obtain ⟨g, hA, hg, hrow⟩ := hr h0
  exact ⟨g, hA, (hl g hg).2, hrow.keeps hk (hl g hg).1⟩
/-- The labels that are for one number. -/
def Lab.for : Lab → Option Nat
  | .obj n => some n
  | .row n => some n
  | .bytes n => some n
  | _ => none
theorem ObAt.keeps {F : Nat → Prop} {w w' : World} {lab lab' : Nat → Option Lab} {n : Nat} {v : Value} {o : Option Ob} (h : ObAt w lab n v o) (hk : Keeps F w w')
    (hl : ∀ g k, lab g = some k → k.for = some n → ¬ F g ∧ lab' g = some k) : ObAt w' lab' n v o := by
  cases o with
  | none => exact h
  | some o =>
    cases o with
    | cons a d =>
      obtain ⟨g, hv, hg, hb⟩ := h
      exact ⟨g, hv, (hl g _ hg rfl).2, hb.keeps hk (hl g _ hg rfl).1⟩
    | text s k =>
      obtain ⟨g, hv, hg, hb⟩ := h
      exact ⟨g, hv, (hl g _ hg rfl).2, hb.keeps hk (hl g _ hg rfl).1⟩
    | vec l =>
      obtain ⟨g, r, hv, hg, hb, hr⟩ := h
      exact ⟨g, r, hv, (hl g _ hg rfl).2, hb.keeps hk (hl g _ hg rfl).1, hr.keeps hk fun g hg => hl g _ hg rfl⟩
    | code p q z b l =>
      obtain ⟨g, rb, rl, hv, hg, hb, hr, hr2⟩ := h
      exact ⟨g, rb, rl, hv, (hl g _ hg rfl).2, hb.keeps hk (hl g _ hg rfl).1, hr.keeps hk fun g hg => hl g _ hg rfl, hr2.keeps hk fun g hg => hl g _ hg rfl⟩

/-- A heap stays where its blocks are kept. -/
theorem HeapIs.keeps {F : Nat → Prop} {w w' : World} {base hp lim : Nat} {ob : Obs} {lab : Nat → Option Lab} {P : Parts} (h : HeapIs w base hp lim ob lab P) (hk : Keeps F w w') (hF : ∀ b, F b → lab b = none) : HeapIs w' base hp lim ob lab P := by
  have hn : ∀ g k, lab g = some k → ¬ F g := fun g k hg hf => by rw [hF g hf] at hg; cases hg
  exact { h with
    inb := fun b l hb => ⟨(h.inb b l hb).1, Nat.lt_of_lt_of_le (h.inb b l hb).2 hk.size⟩
    blk := h.blk.keeps hk (hn _ _ h.hdr)
    objs := owns_keeps h.objs hk fun k hv => hn _ _ (h.olab k hv)
    each := fun i hi => by
      obtain ⟨v, hv, ho⟩ := h.each i hi
      exact ⟨v, hv, ho.keeps hk fun g k hg _ => ⟨hn g k hg, hg⟩⟩
    free := owns_keeps h.free hk fun k hv => hn _ _ (h.flab k hv) }
theorem HeapAt.keeps {F : Nat → Prop} {w w' : World} {base hp lim : Nat} {ob : Obs} {lab : Nat → Option Lab} (h : HeapAt w base hp lim ob lab) (hk : Keeps F w w') (hF : ∀ b, F b → lab b = none) : HeapAt w' base hp lim ob lab := by
  obtain ⟨P, h⟩ := h
  exact ⟨P, h.keeps hk hF⟩
theorem HeapAt.below {w w' : World} {base hp lim : Nat} {ob : Obs} {lab : Nat → Option Lab} (h : HeapAt w base hp lim ob lab) (hk : Below w.heap.size w w') : HeapAt w' base hp lim ob lab :=
  h.keeps (F := fun _ => False) (.of_below hk) fun _ hf => hf.elim
theorem HeapIs.below {w w' : World} {base hp lim : Nat} {ob : Obs} {lab : Nat → Option Lab} {P : Parts} (h : HeapIs w base hp lim ob lab P) (hk : Below w.heap.size w w') : HeapIs w' base hp lim ob lab P :=
  h.keeps (F := fun _ => False) (.of_below hk) fun _ hf => hf.elim

/-- The numbers that are free are as many as the slice tells. -/
theorem HeapIs.many {w : World} {base hp lim : Nat} {ob : Obs} {lab : Nat → Option Lab} {P : Parts} (h : HeapIs w base hp lim ob lab P) : manyTo ob lim + P.nf = P.m := by
  have h1 := count_of_row P.f P.nf P.m (fun x => (ob x).isNone) h.inj fun x => by rw [h.holes x]; simp
  rw [manyTo_more ob P.m lim h.m h.out]
  have h2 : ∀ m, manyTo ob m + ((List.range m).filter fun x => (ob x).isNone).length = m := by
    intro m
    induction m with
    | zero => rfl
    | succ m ih =>
      rw [List.range_succ, List.filter_append, List.length_append]
      simp only [manyTo]
      cases hm : ob m <;> simp [hm] <;> omega
  have := h2 P.m
  omega
end Go.Proofs.YtlibdhnlmekmhaaGreatDoor.Rep
end

/- A heap in memory behind a change: an object replaced. -/
section
namespace Go.Proofs.YtlibdhnlmekmhaaGreatDoor.Rep
open Go.RowKit
open Go.Proofs.YtlibdhnlmekmhaaGreatDoor.Own Go.Proofs.YtlibdhnlmekmhaaGreatDoor.Hp Go.Proofs.YtlibdhnlmekmhaaGreatDoor.HeapOrd

/-- The blocks of a heap. -/
def Of (lab : Nat → Option Lab) (b : Nat) : Prop := lab b ≠ none
/-- The blocks of one object. -/
def OfObj (lab : Nat → Option Lab) (n : Nat) (b : Nat) : Prop := ∃ k, lab b = some k ∧ k.for = some n
theorem OfObj.of {lab : Nat → Option Lab} {n b : Nat} (h : OfObj lab n b) : Of lab b := by
  obtain ⟨k, hk, _⟩ := h
  unfold Of
  rw [hk]
  simp

theorem HeapIs.has {w : World} {base hp lim : Nat} {ob : Obs} {lab : Nat → Option Lab} {P : Parts} (h : HeapIs w base hp lim ob lab P) {n : Nat} {o : Ob} (ho : ob n = some o) : n < P.m := by
  rcases Nat.lt_or_ge n P.m with h1 | h1
  · exact h1
  · rw [h.out n h1] at ho; cases ho

theorem HeapIs.setObj {w w' : World} {base hp lim : Nat} {ob : Obs} {lab : Nat → Option Lab} {P : Parts} (h : HeapIs w base hp lim ob lab P) {n : Nat} {o o' : Ob} {v : Value} (hk : Keeps (OfObj lab n) w w')
    (ho : ob n = some o) (hs : o.size = o'.size) (hv : P.vals[n]? = some v) (hn : ObAt w' lab n v (some o')) (hsm : Small (some o')) : HeapIs w' base hp lim (put ob n (some o')) lab P := by
  have hlt := h.has ho
  have hm := h.m
  have hu : usedTo (put ob n (some o')) lim = usedTo ob lim := by
    have := usedTo_put ob lim n (some o') (by omega)
    rw [ho] at this
    simp only [sizeO] at this
    omega
  have hno : ∀ k, k.for = none → ∀ b, lab b = some k → ¬ OfObj lab n b := by
    rintro k hk b hb ⟨k', hk', hf⟩
    rw [hb] at hk'
    cases hk'
    rw [hk] at hf
    cases hf
  exact { h with
    inb := fun b l hb => ⟨(h.inb b l hb).1, Nat.lt_of_lt_of_le (h.inb b l hb).2 hk.size⟩
    blk := by rw [hu]; exact h.blk.keeps hk (hno .hdr rfl _ h.hdr)
    out := fun i hi => by rw [put_other _ _ _ _ (by omega)]; exact h.out i hi
    used := by rw [hu]; exact h.used
    objs := owns_keeps h.objs hk fun k hv => hno .objs rfl _ (h.olab k hv)
    each := fun i hi => by
      by_cases hin : i = n
      · subst hin
        exact ⟨v, hv, by rw [put_same]; exact hn⟩
      · obtain ⟨v, hv, ho⟩ := h.each i hi
        refine ⟨v, hv, ?_⟩
        rw [put_other _ _ _ _ hin]
        refine ho.keeps hk fun g k hg hf => ⟨?_, hg⟩
        rintro ⟨k', hk', hf'⟩
        rw [hg] at hk'
        cases hk'
        rw [hf] at hf'
        cases hf'
        exact hin rfl
    small := fun i => by
      by_cases hin : i = n
      · subst hin; rw [put_same]; exact hsm
      · rw [put_other _ _ _ _ hin]; exact h.small i
    free := owns_keeps h.free hk fun k hv => hno .free rfl _ (h.flab k hv)
    holes := fun x => by
      rw [h.holes x]
      by_cases hx : x = n
      · subst hx; rw [put_same, ho]; simp
      · rw [put_other _ _ _ _ hx] }
end Go.Proofs.YtlibdhnlmekmhaaGreatDoor.Rep
end

/- A heap in memory whose count of what is used is open; a new object's blocks. -/
section
namespace Go.Proofs.YtlibdhnlmekmhaaGreatDoor.Rep
open Go.RowKit
open Go.Proofs.YtlibdhnlmekmhaaGreatDoor.Own Go.Proofs.YtlibdhnlmekmhaaGreatDoor.Hp Go.Proofs.YtlibdhnlmekmhaaGreatDoor.HeapOrd

structure HeapU (w : World) (base hp lim : Nat) (ob : Obs) (lab : Nat → Option Lab) (P : Parts) (u : Value) : Prop where
  lim1 : 1 ≤ lim
  lim2 : lim ≤ 65536
  inb : ∀ b l, lab b = some l → base ≤ b ∧ b < w.heap.size
  hdr : lab hp = some .hdr
  blk : Blk w hp #[.int .i64 (lim : Int), P.ov, P.fv, u] 105
  m : P.m ≤ lim
  out : ∀ i, P.m ≤ i → ob i = none
  objs : w.ownsRow base 148 1 P.ov P.m P.vals
  olab : ∀ k, P.ov.ownBlock = some k → lab k = some .objs
  each : ∀ i, i < P.m → ∃ v, P.vals[i]? = some v ∧ ObAt w lab i v (ob i)
  small : ∀ i, Small (ob i)
  free : w.ownsRow base 3 1 P.fv P.nf (fcells P.nf P.f)
  flab : ∀ k, P.fv.ownBlock = some k → lab k = some .free
  ord : Ord P.f P.nf
  inj : Inj P.f P.nf
  holes : ∀ x, (∃ k, k < P.nf ∧ P.f k = x) ↔ (x < P.m ∧ ob x = none)

theorem HeapIs.toU {w : World} {base hp lim : Nat} {ob : Obs} {lab : Nat → Option Lab} {P : Parts} (h : HeapIs w base hp lim ob lab P) : HeapU w base hp lim ob lab P (.int .i64 (usedTo ob lim : Int)) := { h with }
theorem HeapU.toIs {w : World} {base hp lim : Nat} {ob : Obs} {lab : Nat → Option Lab} {P : Parts} (h : HeapU w base hp lim ob lab P (.int .i64 (usedTo ob lim : Int))) (hu : usedTo ob lim ≤ 1048576) : HeapIs w base hp lim ob lab P := { h with used := hu }

/-- Where only the count is written, and blocks that are none of the heap's. -/
theorem HeapU.count {w w' : World} {base hp lim : Nat} {ob : Obs} {lab : Nat → Option Lab} {P : Parts} {u u' : Value} (h : HeapU w base hp lim ob lab P u) (hk : Keeps (fun b => b = hp) w w')
    (hB : Blk w' hp #[.int .i64 (lim : Int), P.ov, P.fv, u'] 105) : HeapU w' base hp lim ob lab P u' := by
  have hn : ∀ g k, lab g = some k → k ≠ .hdr → ¬ g = hp := fun g k hg hne e => by subst e; rw [h.hdr] at hg; cases hg; exact hne rfl
  exact { h with
    inb := fun b l hb => ⟨(h.inb b l hb).1, Nat.lt_of_lt_of_le (h.inb b l hb).2 hk.size⟩
    blk := hB
    objs := owns_keeps h.objs hk fun k hv => hn _ _ (h.olab k hv) (by simp)
    each := fun i hi => by
      obtain ⟨v, hv, ho⟩ := h.each i hi
      exact ⟨v, hv, ho.keeps hk fun g k hg hf => ⟨hn g k hg (fun e => by subst e; cases hf), hg⟩⟩
    free := owns_keeps h.free hk fun k hv => hn _ _ (h.flab k hv) (by simp) }

/-- Labels for the blocks of an object that is to come. -/
def both (labO lab : Nat → Option Lab) (b : Nat) : Option Lab := match labO b with | some l => some l | none => lab b
/-- They are for a number that has no object, and lie apart. -/
structure NewLab (w : World) (base n : Nat) (labO lab : Nat → Option Lab) : Prop where
  apart : ∀ b l, labO b = some l → lab b = none ∧ base ≤ b ∧ b < w.heap.size
  for_ : ∀ b l, labO b = some l → l.for = some n
theorem both_old {labO lab : Nat → Option Lab} {b : Nat} {l : Lab} {w : World} {base n : Nat} (h : NewLab w base n labO lab) (hb : lab b = some l) : both labO lab b = some l := by
  unfold both
  cases ho : labO b with
  | none => exact hb
  | some l' =>
    have := (h.apart b l' ho).1
    rw [hb] at this
    cases this
theorem both_new {labO lab : Nat → Option Lab} {b : Nat} {l : Lab} (hb : labO b = some l) : both labO lab b = some l := by
  unfold both
  rw [hb]
theorem HeapU.addLab {w : World} {base hp lim n : Nat} {ob : Obs} {lab labO : Nat → Option Lab} {P : Parts} {u : Value} (h : HeapU w base hp lim ob lab P u) (hn : NewLab w base n labO lab) : HeapU w base hp lim ob (both labO lab) P u :=
  { h with
    inb := fun b l hb => by
      unfold both at hb
      cases ho : labO b with
      | none => rw [ho] at hb; exact h.inb b l hb
      | some l' => exact (hn.apart b l' ho).2
    hdr := both_old hn h.hdr
    olab := fun k hk => both_old hn (h.olab k hk)
    each := fun i hi => by
      obtain ⟨v, hv, ho⟩ := h.each i hi
      exact ⟨v, hv, ho.keeps (F := fun _ => False) (Keeps.refl _ w) fun g k hg _ => ⟨id, both_old hn hg⟩⟩
    flab := fun k hk => both_old hn (h.flab k hk) }
theorem ObAt.both {w : World} {labO lab : Nat → Option Lab} {n : Nat} {v : Value} {o : Option Ob} (h : ObAt w labO n v o) : ObAt w (both labO lab) n v o :=
  h.keeps (F := fun _ => False) (Keeps.refl _ w) fun _ _ hg _ => ⟨id, both_new hg⟩

theorem HeapU.has {w : World} {base hp lim : Nat} {ob : Obs} {lab : Nat → Option Lab} {P : Parts} {u : Value} (h : HeapU w base hp lim ob lab P u) {n : Nat} {o : Ob} (ho : ob n = some o) : n < P.m := by
  rcases Nat.lt_or_ge n P.m with h1 | h1
  · exact h1
  · rw [h.out n h1] at ho; cases ho

/-- An object behind the last one. -/
theorem HeapU.placeEnd {w w' : World} {base hp lim : Nat} {ob : Obs} {lab : Nat → Option Lab} {P : Parts} {u ov' v : Value} {o : Ob} (h : HeapU w base hp lim ob lab P u) (hnf : P.nf = 0) (hlt : P.m < lim)
    (hB : Blk w' hp #[.int .i64 (lim : Int), ov', P.fv, u] 105) (hrow : w'.ownsRow base 148 1 ov' (P.m + 1) (P.vals ++ [v])) (hk : Keeps (fun b => b = hp ∨ P.ov.ownBlock = some b) w w')
    (hpl : ∀ b, ov'.ownBlock = some b → P.ov.ownBlock = some b ∨ w.heap.size ≤ b) (_hb : base ≤ w.heap.size) (ho : ObAt w lab P.m v (some o)) (hs : Small (some o)) :
    HeapU w' base hp lim (put ob P.m (some o)) (fun b => if ov'.ownBlock = some b then some .objs else lab b) { P with m := P.m + 1, ov := ov', vals := P.vals ++ [v] } u := by
  have hl : ∀ b l, lab b = some l → l ≠ .objs → ov'.ownBlock ≠ some b := fun b l hb hne e => by
    rcases hpl b e with e | e
    · have := h.olab b e; rw [hb] at this; cases this; exact hne rfl
    · have := (h.inb b l hb).2; omega
  have hkeep : ∀ b l, lab b = some l → l ≠ .objs → l ≠ .hdr → ¬ (b = hp ∨ P.ov.ownBlock = some b) := fun b l hb h1 h2 e => by
    rcases e with e | e
    · subst e; rw [h.hdr] at hb; cases hb; exact h2 rfl
    · have := h.olab b e; rw [hb] at this; cases this; exact h1 rfl
  have hfor : ∀ i b l, lab b = some l → l.for = some i → l ≠ .objs ∧ l ≠ .hdr := fun i b l _ hf => by constructor <;> (intro e; subst e; cases hf)
  have hobs : ∀ i v', ObAt w lab i v' (ob i) → ObAt w' (fun b => if ov'.ownBlock = some b then some Lab.objs else lab b) i v' (ob i) := fun i v' ho => ho.keeps hk fun g k hg hf => by
    obtain ⟨a, b⟩ := hfor i g k hg hf
    refine ⟨hkeep g k hg a b, ?_⟩
    show (if ov'.ownBlock = some g then some Lab.objs else lab g) = some k
    rw [if_neg (hl g k hg a)]
    exact hg
  have hlen : P.vals.length = P.m := by have := h.objs.1; omega
  exact {
    lim1 := h.lim1
    lim2 := h.lim2
    inb := fun b l hb' => by
      split at hb'
      · rename_i e
        have h1 : base ≤ b ∧ b < w'.heap.size := hrow.lt b e
        exact h1
      · exact ⟨(h.inb b l hb').1, Nat.lt_of_lt_of_le (h.inb b l hb').2 hk.size⟩
    hdr := by
      show (if ov'.ownBlock = some hp then some Lab.objs else lab hp) = _
      rw [if_neg (hl hp _ h.hdr (by simp))]
      exact h.hdr
    blk := hB
    m := by show P.m + 1 ≤ lim; omega
    out := fun i hi => by
      have : P.m + 1 ≤ i := hi
      rw [put_other _ _ _ _ (by omega)]
      exact h.out i (by omega)
    objs := hrow
    olab := fun k hk => by
      show (if ov'.ownBlock = some k then some Lab.objs else lab k) = _
      rw [if_pos hk]
    each := fun i hi => by
      have hi : i < P.m + 1 := hi
      by_cases hm : i = P.m
      · subst hm
        refine ⟨v, by simp [hlen], ?_⟩
        rw [put_same]
        exact ho.keeps hk fun g k hg hf => by
          obtain ⟨a, b⟩ := hfor _ g k hg hf
          refine ⟨hkeep g k hg a b, ?_⟩
          show (if ov'.ownBlock = some g then some Lab.objs else lab g) = some k
          rw [if_neg (hl g k hg a)]
          exact hg
      · obtain ⟨v', hv', ho'⟩ := h.each i (by omega)
        refine ⟨v', by rw [List.getElem?_append_left (by omega)]; exact hv', ?_⟩
        rw [put_other _ _ _ _ hm]
        exact hobs i v' ho'
    small := fun i => by
      by_cases hm : i = P.m
      · subst hm; rw [put_same]; exact hs
      · rw [put_other _ _ _ _ hm]; exact h.small i
    free := owns_keeps h.free hk fun k hv => hkeep k _ (h.flab k hv) (by simp) (by simp)
    flab := fun k hv => by
      show (if ov'.ownBlock = some k then some Lab.objs else lab k) = _
      rw [if_neg (hl k _ (h.flab k hv) (by simp))]
      exact h.flab k hv
    ord := h.ord
    inj := h.inj
    holes := fun x => by
      show (∃ k, k < P.nf ∧ P.f k = x) ↔ _
      constructor
      · rintro ⟨k, hk, _⟩; omega
      · rintro ⟨hx, hxn⟩
        have hx : x < P.m + 1 := hx
        exfalso
        by_cases hm : x = P.m
        · subst hm; rw [put_same] at hxn; cases hxn
        · rw [put_other _ _ _ _ hm] at hxn
          obtain ⟨k, hk, _⟩ := (h.holes x).2 ⟨by omega, hxn⟩
          omega }
end Go.Proofs.YtlibdhnlmekmhaaGreatDoor.Rep
end
