/- Plain mathematics of package container/heap: sifting up and down in a row of numbers. -/
import Init
namespace Go.Proofs.YtcdlfgggmigcnaaDoor.HeapOrd

/-- No number is less than the one at its parent's index. -/
def Ord (f : Nat → Nat) (n : Nat) : Prop := ∀ k, 0 < k → k < n → f ((k - 1) / 2) ≤ f k
def swap (f : Nat → Nat) (i j : Nat) : Nat → Nat := fun k => if k = i then f j else if k = j then f i else f k
def Inj (f : Nat → Nat) (n : Nat) : Prop := ∀ a b, a < n → b < n → f a = f b → a = b
/-- The same numbers, in another order. -/
structure Sames (n : Nat) (f g : Nat → Nat) : Prop where
  mem : ∀ x, (∃ k, k < n ∧ g k = x) ↔ (∃ k, k < n ∧ f k = x)
  inj : Inj f n → Inj g n

theorem Sames.refl (n : Nat) (f : Nat → Nat) : Sames n f f := ⟨fun _ => Iff.rfl, id⟩
theorem Sames.trans {n : Nat} {f g h : Nat → Nat} (a : Sames n f g) (b : Sames n g h) : Sames n f h := ⟨fun x => (b.mem x).trans (a.mem x), fun hi => b.inj (a.inj hi)⟩

theorem swap_at (f : Nat → Nat) (i j k : Nat) : swap f i j k = f (if k = i then j else if k = j then i else k) := by
  unfold swap; split <;> (try split) <;> rfl
theorem swap_ne (f : Nat → Nat) {i j k : Nat} (h1 : k ≠ i) (h2 : k ≠ j) : swap f i j k = f k := by simp [swap, h1, h2]
theorem swap_left (f : Nat → Nat) (i j : Nat) : swap f i j i = f j := by simp [swap]
theorem swap_right (f : Nat → Nat) (i j : Nat) : swap f i j j = f i := by
  unfold swap; split <;> simp_all

theorem sames_swap (n : Nat) (f : Nat → Nat) (i j : Nat) (hi : i < n) (hj : j < n) : Sames n f (swap f i j) := by
  constructor
  · intro x
    constructor
    · rintro ⟨k, hk, rfl⟩
      rw [swap_at]
      refine ⟨_, ?_, rfl⟩
      split <;> (try split) <;> omega
    · rintro ⟨k, hk, rfl⟩
      refine ⟨if k = i then j else if k = j then i else k, by split <;> (try split) <;> omega, ?_⟩
      rw [swap_at]
      congr 1
      split <;> (try split) <;> (try split) <;> (try split) <;> omega
  · intro h a b ha hb hab
    rw [swap_at, swap_at] at hab
    have := h _ _ (by split <;> (try split) <;> omega) (by split <;> (try split) <;> omega) hab
    split at this <;> (try split at this) <;> (try split at this) <;> (try split at this) <;> omega

structure UpInv (f : Nat → Nat) (n j : Nat) : Prop where
  lt : j < n
  other : ∀ k, 0 < k → k < n → k ≠ j → f ((k - 1) / 2) ≤ f k
  under : ∀ k, 0 < k → k < n → (k - 1) / 2 = j → 0 < j → f ((j - 1) / 2) ≤ f k

theorem UpInv.stop {f : Nat → Nat} {n j : Nat} (h : UpInv f n j) (hj : j = 0 ∨ f ((j - 1) / 2) ≤ f j) : Ord f n := by
  intro k h0 hk
  by_cases e : k = j
  · subst e
    rcases hj with hj | hj
    · omega
    · exact hj
  · exact h.other k h0 hk e
theorem UpInv.step {f : Nat → Nat} {n j : Nat} (h : UpInv f n j) (h0 : 0 < j) (hj : f j < f ((j - 1) / 2)) : UpInv (swap f ((j - 1) / 2) j) n ((j - 1) / 2) := by
  have hlt := h.lt
  generalize hi : (j - 1) / 2 = i at *
  have hij : i < j := by omega
  refine ⟨by omega, ?_, ?_⟩
  · intro k hk0 hk hki
    by_cases hkj : k = j
    · subst hkj
      rw [hi, swap_left, swap_right]
      omega
    · rw [swap_ne f hki hkj]
      by_cases hp : (k - 1) / 2 = j
      · rw [hp, swap_right]
        have := h.under k hk0 hk hp h0
        rwa [hi] at this
      · by_cases hp2 : (k - 1) / 2 = i
        · rw [hp2, swap_left]
          have := h.other k hk0 hk hkj
          rw [hp2] at this
          omega
        · rw [swap_ne f hp2 hp]
          exact h.other k hk0 hk hkj
  · intro k hk0 hk hp hi0
    have hpi : (i - 1) / 2 ≠ i := by omega
    have hpj : (i - 1) / 2 ≠ j := by omega
    rw [swap_ne f hpi hpj]
    have h1 := h.other i hi0 (by omega) (by omega)
    by_cases hkj : k = j
    · subst hkj
      rw [swap_right]
      exact h1
    · rw [swap_ne f (by omega) hkj]
      have := h.other k hk0 hk hkj
      rw [hp] at this
      omega

structure DownInv (f : Nat → Nat) (n i : Nat) : Prop where
  other : ∀ k, 0 < k → k < n → (k - 1) / 2 ≠ i → f ((k - 1) / 2) ≤ f k
  under : ∀ k, 0 < k → k < n → (k - 1) / 2 = i → 0 < i → f ((i - 1) / 2) ≤ f k

theorem DownInv.leaf {f : Nat → Nat} {n i : Nat} (h : DownInv f n i) (hi : n ≤ 2 * i + 1) : Ord f n := fun k h0 hk => h.other k h0 hk (by omega)
theorem DownInv.stop {f : Nat → Nat} {n i : Nat} (h : DownInv f n i) (h1 : 2 * i + 1 < n → f i ≤ f (2 * i + 1)) (h2 : 2 * i + 2 < n → f i ≤ f (2 * i + 2)) : Ord f n := by
  intro k h0 hk
  by_cases e : (k - 1) / 2 = i
  · rw [e]
    rcases (by omega : k = 2 * i + 1 ∨ k = 2 * i + 2) with rfl | rfl
    · exact h1 hk
    · exact h2 hk
  · exact h.other k h0 hk e
/-- The lesser child goes up. -/
theorem DownInv.step {f : Nat → Nat} {n i j : Nat} (h : DownInv f n i) (hj : j < n) (hc : j = 2 * i + 1 ∨ j = 2 * i + 2) (hlt : f j < f i)
    (h1 : f j ≤ f (2 * i + 1)) (h2 : 2 * i + 2 < n → f j ≤ f (2 * i + 2)) : DownInv (swap f i j) n j := by
  constructor
  · intro k hk0 hk hp
    by_cases hki : k = i
    · subst hki
      rw [swap_left, swap_ne f (by omega) (by omega)]
      exact h.under j (by omega) hj (by omega) hk0
    · by_cases hp2 : (k - 1) / 2 = i
      · rw [hp2, swap_left]
        by_cases hkj : k = j
        · subst hkj; rw [swap_right]; omega
        · rw [swap_ne f hki hkj]
          rcases (by omega : k = 2 * i + 1 ∨ k = 2 * i + 2) with rfl | rfl
          · exact h1
          · exact h2 hk
      · rw [swap_ne f hp2 hp]
        by_cases hkj : k = j
        · omega
        · rw [swap_ne f hki hkj]
          exact h.other k hk0 hk hp2
  · intro k hk0 hk hp hj0
    have e : (j - 1) / 2 = i := by omega
    rw [e, swap_left, swap_ne f (by omega) (by omega)]
    have := h.other k hk0 hk (by omega)
    rwa [hp] at this

/-- The first number is the least. -/
theorem Ord.least {f : Nat → Nat} {n : Nat} (h : Ord f n) : ∀ k, k < n → f 0 ≤ f k := by
  intro k
  induction k using Nat.strongRecOn with
  | _ k ih =>
    intro hk
    by_cases h0 : k = 0
    · subst h0; exact Nat.le_refl _
    · exact Nat.le_trans (ih ((k - 1) / 2) (by omega) (by omega)) (h k (by omega) hk)
/-- A number put behind the last one: sift it up. -/
theorem Ord.push {f : Nat → Nat} {n : Nat} (h : Ord f n) : UpInv f (n + 1) n := ⟨by omega, fun k h0 hk hn => h k h0 (by omega), fun k h0 hk hp _ => by omega⟩
/-- The last number brought to the front: sift it down. -/
theorem Ord.pop {f : Nat → Nat} {n : Nat} (h : Ord f (n + 1)) : DownInv (swap f 0 n) n 0 := by
  constructor
  · intro k h0 hk hp
    rw [swap_ne f hp (by omega), swap_ne f (by omega) (by omega)]
    exact h k h0 (by omega)
  · intro k _ _ _ h0
    omega
/-- Numbers that are told by a row without repetition are as many as those that a test finds. -/
theorem count_of_row (f : Nat → Nat) (n m : Nat) (p : Nat → Bool) (hi : Inj f n) (hm : ∀ x, (∃ k, k < n ∧ f k = x) ↔ (x < m ∧ p x = true)) : n = ((List.range m).filter p).length := by
  have hp : ((List.range n).map f).Perm ((List.range m).filter p) := by
    apply (List.perm_ext_iff_of_nodup ?_ ?_).2
    · intro x
      simp only [List.mem_map, List.mem_range, List.mem_filter]
      exact hm x
    · rw [List.nodup_iff_pairwise_ne, List.pairwise_map]
      apply List.Pairwise.imp_of_mem ?_ (List.nodup_range (n := n))
      intro a b ha hb hne hab
      exact hne (hi a b (List.mem_range.1 ha) (List.mem_range.1 hb) hab)
    · exact List.Nodup.sublist List.filter_sublist List.nodup_range
  have := hp.length_eq
  simpa using this
end Go.Proofs.YtcdlfgggmigcnaaDoor.HeapOrd
