/- Plain mathematics for HeapFull: a heap of conses that hold their numbers. -/
import Derived.Test.YtpofmbigclonlaaDoorLives
namespace Go.Proofs.YtpofmbigclonlaaDoor.Full
open Go.Proofs.YtpofmbigclonlaaDoor.Hp Go.Proofs.YtpofmbigclonlaaDoor.Rep Go.Proofs.YtpofmbigclonlaaDoor.Add Go.Proofs.YtpofmbigclonlaaDoor.Make Go.Proofs.YtpofmbigclonlaaDoor.Kit Go.Proofs.YtpofmbigclonlaaDoor.Car Go.Proofs.YtpofmbigclonlaaDoor.Quick

def obC (i : Nat) : Obs := fun k => if k < i then some (.cons (0, (k : Int)) (1, 0)) else none
theorem obC_in {i k : Nat} (h : k < i) : obC i k = some (.cons (0, (k : Int)) (1, 0)) := by simp [obC, h]
theorem obC_out {i k : Nat} (h : i ≤ k) : obC i k = none := by simp [obC]; omega
theorem obC_zero : obC 0 = noObs := by funext k; simp [obC, noObs]
theorem obC_put (i : Nat) : put (obC i) i (some (.cons (0, (i : Int)) (1, 0))) = obC (i + 1) := by
  funext k
  by_cases h : k = i
  · subst h; rw [put_same, obC_in (by omega)]
  · rw [put_other _ _ _ _ h]
    by_cases h2 : k < i
    · rw [obC_in h2, obC_in (by omega)]
    · rw [obC_out (by omega), obC_out (by omega)]
theorem obC_free (i n : Nat) (h : i ≤ n) : freeTo (obC i) n = i := freeTo_unique _ _ _ h (fun k hk => by rw [obC_in hk]; rfl) fun _ => obC_out (Nat.le_refl _)
theorem obC_used (i n : Nat) : usedTo (obC i) n = 0 := by
  induction n with
  | zero => rfl
  | succ n ih =>
    simp only [usedTo, ih]
    by_cases h : n < i
    · rw [obC_in h]; rfl
    · rw [obC_out (by omega)]; rfl
theorem obC_many (n : Nat) : manyTo (obC n) n = n := manyTo_all _ _ fun i hi => by rw [obC_in hi]; rfl
theorem obC_add (i n : Nat) (h : i < n) : addO (obC i) n (.cons (0, (i : Int)) (1, 0)) = ((2, (i : Int)), 0, obC (i + 1)) := by
  unfold addO
  rw [obC_free i n (by omega), obC_used, if_pos ⟨h, by simp [Ob.size]⟩, obC_put]
  rfl
theorem obC_full (n : Nat) (o : Ob) : addO (obC n) n o = ((0, 0), 7, obC n) := by
  unfold addO
  rw [obC_free n n (Nat.le_refl _), if_neg fun h => absurd h.1 (by omega)]
theorem obC_text (n : Nat) : textO (obC n) n ⟨#[]⟩ = ((0, 0), 7, obC n) := by
  unfold textO
  rw [if_neg (by decide), if_neg (by decide), obC_full]
theorem obC_code (n : Nat) : codeO (obC n) n 0 0 0 [] [] = ((0, 0), 7, obC n) := by
  unfold codeO
  rw [if_neg (by decide), obC_full]

/-- The conses' words. -/
def L (n : Nat) : List Wd := (List.range n).map fun (i : Nat) => (2, (i : Int))
theorem L_length (n : Nat) : (L n).length = n := by simp [L]
theorem L_succ (n : Nat) : L (n + 1) = L n ++ [(2, (n : Int))] := by simp [L, List.range_succ]
theorem L_at (n k : Nat) (h : k < n) : (L n)[k]? = some (2, (k : Int)) := by simp [L, h]
/-- All but one. -/
def roots (n k : Nat) : List Wd := (L n).take k ++ (L n).drop (k + 1)
theorem mem_roots (n k : Nat) (w : Wd) : w ∈ roots n k ↔ ∃ i, i < n ∧ i ≠ k ∧ w = (2, (i : Int)) := by
  unfold roots
  rw [List.mem_append]
  constructor
  · rintro (h | h)
    · obtain ⟨i, hi⟩ := List.mem_iff_getElem?.1 h
      rw [List.getElem?_take] at hi
      split at hi
      · rename_i hik
        have hin : i < n := by
          have := (List.getElem?_eq_some_iff.1 hi).1
          rwa [L_length] at this
        rw [L_at n i hin] at hi
        cases hi
        exact ⟨i, hin, by omega, rfl⟩
      · cases hi
    · obtain ⟨i, hi⟩ := List.mem_iff_getElem?.1 h
      rw [List.getElem?_drop] at hi
      have hin : k + 1 + i < n := by
        have := (List.getElem?_eq_some_iff.1 hi).1
        rwa [L_length] at this
      rw [L_at n _ hin] at hi
      cases hi
      exact ⟨k + 1 + i, hin, by omega, rfl⟩
  · rintro ⟨i, hi, hik, rfl⟩
    by_cases h : i < k
    · refine .inl (List.mem_iff_getElem?.2 ⟨i, ?_⟩)
      rw [List.getElem?_take, if_pos h, L_at n i hi]
    · refine .inr (List.mem_iff_getElem?.2 ⟨i - (k + 1), ?_⟩)
      rw [List.getElem?_drop, show k + 1 + (i - (k + 1)) = i by omega, L_at n i hi]
theorem obC_findC (n k : Nat) (h : k < n) : findO (obC n) (2, (k : Int)) = some (.cons (0, (k : Int)) (1, 0)) :=
  findO_mk (by show (0 : Int) ≤ k; omega) (by show obC n (Int.toNat k) = _; rw [Int.toNat_natCast, obC_in h]) rfl
theorem obC_kind (n : Nat) (w : Wd) (o : Ob) (h : findO (obC n) w = some o) : w.1 = 2 := by
  obtain ⟨_, h1, h2⟩ := findO_some h
  unfold obC at h1
  split at h1
  · cases h1; exact h2.symm
  · cases h1
theorem obC_collected (n k : Nat) (_h : k < n) : collected (obC n) (roots n k) = put (obC n) k none := by
  have hc := collected_of_marks (obC n) (roots n k) (fun i => decide (i < n ∧ i ≠ k)) (fun i hi => by
    have hi := of_decide_eq_true hi
    have := Reach.root (f := obC n) (roots := roots n k) (2, (i : Int)) _ ((mem_roots n k _).2 ⟨i, hi.1, hi.2, rfl⟩) (obC_findC n i hi.1)
    simpa using this) (fun w o hw _ => by
    obtain ⟨i, h1, h2, rfl⟩ := (mem_roots n k w).1 hw
    simp [h1, h2]) (fun i p w o hi hp hw ho => by
    have hk := obC_kind n w o ho
    unfold obC at hp
    split at hp
    · cases hp
      simp only [Ob.words, List.mem_cons, List.not_mem_nil, or_false] at hw
      rcases hw with rfl | rfl <;> simp at hk
    · cases hp)
  funext i
  rw [hc i]
  by_cases hi : i = k
  · subst hi; rw [put_same]; simp
  · rw [put_other _ _ _ _ hi]
    by_cases hn : i < n
    · simp [hn, hi]
    · rw [obC_out (by omega)]; simp
theorem obC_gone (n k : Nat) (h : k < n) : ((manyTo (obC n) n : Nat) : Int) - (manyTo (collected (obC n) (roots n k)) n : Nat) = 1 := by
  rw [obC_collected n k h, obC_many]
  have := manyTo_put (obC n) n k none h
  rw [obC_in h, obC_many] at this
  simp at this
  omega
/-- The objects at the end. -/
def obE (n k : Nat) : Obs := put (put (obC n) k none) k (some (.vec []))
theorem obE_vec (n k : Nat) (h : k < n) : vecO (put (obC n) k none) n [] = ((4, (k : Int)), 0, obE n k) := by
  have hf : freeTo (put (obC n) k none) n = k := freeTo_unique _ _ _ (by omega) (fun i hi => by rw [put_other _ _ _ _ (by omega), obC_in (by omega)]; rfl) fun _ => put_same _ _ _
  have hu : usedTo (put (obC n) k none) n = 0 := by
    have := usedTo_put (obC n) n k none h
    rw [obC_used] at this
    simp only [sizeO] at this
    omega
  unfold vecO addO
  rw [if_neg (by simp), hf, hu, if_pos ⟨h, by simp [Ob.size]⟩]
  rfl
theorem obE_many (n k : Nat) (h : k < n) : manyTo (obE n k) n = n := manyTo_all _ _ fun i hi => by
  unfold obE
  by_cases hk : i = k
  · subst hk; rw [put_same]; rfl
  · rw [put_other _ _ _ _ hk, put_other _ _ _ _ hk, obC_in hi]; rfl
theorem obE_car (n k j : Nat) (hj : j < n) (hjk : j ≠ k) : carO (obE n k) (2, (j : Int)) = ((0, (j : Int)), 0) := by
  unfold carO
  rw [if_neg (by intro h; cases h), findO_mk (o := .cons (0, (j : Int)) (1, 0)) (by show (0 : Int) ≤ j; omega) (by
    show obE n k (Int.toNat j) = _
    rw [Int.toNat_natCast]
    unfold obE
    rw [put_other _ _ _ _ hjk, put_other _ _ _ _ hjk, obC_in hj]) rfl]
end Go.Proofs.YtpofmbigclonlaaDoor.Full
