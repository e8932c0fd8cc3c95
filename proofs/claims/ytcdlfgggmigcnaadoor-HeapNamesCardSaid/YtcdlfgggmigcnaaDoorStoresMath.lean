/- Plain mathematics for HeapNames: a heap of fifteen great texts and a great vector. -/
import Derived.Test.YtcdlfgggmigcnaaDoorLives
import Derived.Test.YtcdlfgggmigcnaaDoorMake4
import Derived.Test.YtcdlfgggmigcnaaDoorCollect
import Derived.Test.YtcdlfgggmigcnaaDoorUtf2
namespace Go.Proofs.YtcdlfgggmigcnaaDoor.Stores
set_option maxRecDepth 100000
open Go.Lib (validD)
open Go.Proofs.YtcdlfgggmigcnaaDoor.Hp Go.Proofs.YtcdlfgggmigcnaaDoor.Rep Go.Proofs.YtcdlfgggmigcnaaDoor.Add Go.Proofs.YtcdlfgggmigcnaaDoor.Make Go.Proofs.YtcdlfgggmigcnaaDoor.Kit Go.Proofs.YtcdlfgggmigcnaaDoor.Quick Go.Proofs.YtcdlfgggmigcnaaDoor.Strs

def rep (n : Nat) : List UInt8 := List.replicate n 97
theorem rep_add (a b : Nat) : rep (a + b) = rep a ++ rep b := by unfold rep; rw [List.replicate_append_replicate]
theorem one_valid : validD (rep 1) = true ∧ (Utf.runes (rep 1)).length = 1 := by
  have h : (validD (rep 1) && ((Utf.runes (rep 1)).length == 1)) = true := by kernel_rfl
  simpa using h
theorem rep_valid (n : Nat) : validD (rep n) = true ∧ (Utf.runes (rep n)).length = n := by
  induction n with
  | zero => exact ⟨by kernel_rfl, by kernel_rfl⟩
  | succ n ih =>
    rw [Nat.add_comm, rep_add, Utf.valid_join _ _ one_valid.1, Utf.runes_join _ _ one_valid.1, List.length_append, ih.2, one_valid.2]
    exact ⟨ih.1, rfl⟩
theorem rep_len (S : ByteArray) (n : Nat) (h : S.data.toList = rep n) : validD S.data.toList = true ∧ lenL S.data.toList = n := by
  rw [h]
  refine ⟨(rep_valid n).1, ?_⟩
  unfold lenL
  rw [if_pos (rep_valid n).1, (rep_valid n).2]

/-- The first k objects are the text S. -/
def obS (S : ByteArray) (k : Nat) : Obs := fun i => if i < k then some (.text S 65536) else none
theorem obS_in {S : ByteArray} {i k : Nat} (h : i < k) : obS S k i = some (.text S 65536) := by simp [obS, h]
theorem obS_out {S : ByteArray} {i k : Nat} (h : k ≤ i) : obS S k i = none := by simp [obS]; omega
theorem obS_zero (S : ByteArray) : obS S 0 = noObs := by funext i; simp [obS, noObs]
theorem obS_put (S : ByteArray) (k : Nat) : put (obS S k) k (some (.text S 65536)) = obS S (k + 1) := by
  funext i
  by_cases h : i = k
  · subst h; rw [Hp.put_same, obS_in (by omega)]
  · rw [put_other _ _ _ _ h]
    by_cases h2 : i < k
    · rw [obS_in h2, obS_in (by omega)]
    · rw [obS_out (by omega), obS_out (by omega)]
theorem obS_free (S : ByteArray) (k n : Nat) (h : k ≤ n) : freeTo (obS S k) n = k := freeTo_unique _ _ _ h (fun i hi => by rw [obS_in hi]; rfl) fun _ => obS_out (Nat.le_refl _)
theorem obS_used0 (S : ByteArray) (k n : Nat) (h : n ≤ k) : usedTo (obS S k) n = n * 65536 := by
  induction n with
  | zero => rw [Nat.zero_mul]; rfl
  | succ n ih =>
    simp only [usedTo]
    rw [ih (by omega), obS_in (by omega)]
    simp only [sizeO, Ob.size]
    omega
theorem obS_used (S : ByteArray) (k n : Nat) (h : k ≤ n) : usedTo (obS S k) n = k * 65536 := by
  rw [usedTo_more _ k n h fun i hi => obS_out hi, obS_used0 S k k (Nat.le_refl _)]
theorem obS_text (S : ByteArray) (k : Nat) (h : S.data.toList = rep 65536) (hk : k < 15) : textO (obS S k) 40 S = ((3, (k : Int)), 0, obS S (k + 1)) := by
  obtain ⟨h1, h2⟩ := rep_len S _ h
  unfold textO
  rw [if_neg (by rw [h1]; simp), h2, if_neg (by omega)]
  unfold addO
  rw [obS_free S k 40 (by omega), obS_used S k 40 (by omega), if_pos ⟨by omega, by simp only [Ob.size]; omega⟩, obS_put]
  rfl

/-- Fifteen texts and a vector of 65536 words. -/
def obV (S : ByteArray) (zs : List Wd) : Obs := put (obS S 15) 15 (some (.vec zs))
theorem obV_used (S : ByteArray) (zs : List Wd) (hz : zs.length = 65536) (n : Nat) (h : 16 ≤ n) : usedTo (obV S zs) n = 1048576 := by
  have h1 := usedTo_put (obS S 15) n 15 (some (.vec zs)) (by omega)
  rw [obS_used S 15 n (by omega), obS_out (Nat.le_refl _)] at h1
  simp only [sizeO, Ob.size] at h1
  unfold obV
  omega
theorem obV_low {S : ByteArray} {zs : List Wd} {i : Nat} (h : i < 15) : obV S zs i = some (.text S 65536) := by
  unfold obV
  rw [put_other _ _ _ _ (by omega), obS_in h]
theorem obV_at (S : ByteArray) (zs : List Wd) : obV S zs 15 = some (.vec zs) := Hp.put_same _ _ _
theorem obV_out {S : ByteArray} {zs : List Wd} {i : Nat} (h : 16 ≤ i) : obV S zs i = none := by
  unfold obV
  rw [put_other _ _ _ _ (by omega), obS_out (by omega)]
theorem obV_free (S : ByteArray) (zs : List Wd) : freeTo (obV S zs) 40 = 16 := freeTo_unique _ _ _ (by omega) (fun i hi => by
  by_cases h : i < 15
  · rw [obV_low h]; rfl
  · obtain rfl : i = 15 := by omega
    rw [obV_at]; rfl) fun _ => obV_out (Nat.le_refl _)
theorem obV_vec (S : ByteArray) (zs : List Wd) (hz : zs.length = 65536) : vecO (obS S 15) 40 zs = ((4, 15), 0, obV S zs) := by
  unfold vecO addO
  rw [if_neg (by omega), obS_free S 15 40 (by omega), obS_used S 15 40 (by omega), if_pos ⟨by omega, by simp only [Ob.size]; omega⟩]
  rfl
theorem obV_full (S : ByteArray) (zs : List Wd) (hz : zs.length = 65536) (o : Ob) (h : 0 < o.size) : addO (obV S zs) 40 o = ((0, 0), 7, obV S zs) := by
  unfold addO
  rw [obV_used S zs hz 40 (by omega), if_neg (by omega)]
def se : ByteArray := ⟨#[195, 169]⟩
theorem se_valid : validD se.data.toList = true ∧ lenL se.data.toList = 1 := by
  have h : (validD se.data.toList && (lenL se.data.toList == 1)) = true := by kernel_rfl
  simpa using h
theorem obV_text (S : ByteArray) (zs : List Wd) (hz : zs.length = 65536) : textO (obV S zs) 40 ⟨#[195, 169]⟩ = ((0, 0), 7, obV S zs) := by
  show textO (obV S zs) 40 se = _
  unfold textO
  rw [if_neg (by rw [se_valid.1]; simp), se_valid.2, if_neg (by omega)]
  exact obV_full S zs hz _ (by simp [Ob.size])
theorem obV_vec1 (S : ByteArray) (zs : List Wd) (hz : zs.length = 65536) : vecO (obV S zs) 40 [(0, 0)] = ((0, 0), 7, obV S zs) := by
  unfold vecO
  rw [if_neg (by simp)]
  exact obV_full S zs hz _ (by simp [Ob.size])
theorem obV_code (S : ByteArray) (zs : List Wd) (hz : zs.length = 65536) : codeO (obV S zs) 40 0 0 0 [1] [] = ((0, 0), 7, obV S zs) := by
  unfold codeO
  rw [if_neg (by simp)]
  exact obV_full S zs hz _ (by simp [Ob.size])
/-- And an empty text. -/
def obW (S : ByteArray) (zs : List Wd) : Obs := put (obV S zs) 16 (some (.text ⟨#[]⟩ 0))
def s0 : ByteArray := ⟨#[]⟩
theorem s0_valid : validD s0.data.toList = true ∧ lenL s0.data.toList = 0 := by
  have h : (validD s0.data.toList && (lenL s0.data.toList == 0)) = true := by kernel_rfl
  simpa using h
theorem obW_text (S : ByteArray) (zs : List Wd) (hz : zs.length = 65536) : textO (obV S zs) 40 ⟨#[]⟩ = ((3, 16), 0, obW S zs) := by
  show textO (obV S zs) 40 s0 = _
  unfold textO
  rw [if_neg (by rw [s0_valid.1]; simp), s0_valid.2, if_neg (by omega)]
  unfold addO
  rw [obV_free, obV_used S zs hz 40 (by omega), if_pos ⟨by omega, by simp [Ob.size]⟩]
  rfl
theorem obW_used (S : ByteArray) (zs : List Wd) (hz : zs.length = 65536) : usedTo (obW S zs) 40 = 1048576 := by
  have h1 := usedTo_put (obV S zs) 40 16 (some (.text ⟨#[]⟩ 0)) (by omega)
  rw [obV_used S zs hz 40 (by omega), obV_out (Nat.le_refl _)] at h1
  simp only [sizeO, Ob.size] at h1
  unfold obW
  omega
theorem obW_low {S : ByteArray} {zs : List Wd} {i : Nat} (h : i < 15) : obW S zs i = some (.text S 65536) := by unfold obW; rw [put_other _ _ _ _ (by omega), obV_low h]
theorem obW_at (S : ByteArray) (zs : List Wd) : obW S zs 15 = some (.vec zs) := by unfold obW; rw [put_other _ _ _ _ (by omega), obV_at]
theorem obW_many (S : ByteArray) (zs : List Wd) : manyTo (obW S zs) 40 = 17 := by
  rw [manyTo_more _ 17 40 (by omega) fun i hi => by unfold obW; rw [put_other _ _ _ _ (by omega), obV_out (by omega)]]
  refine manyTo_all _ _ fun i hi => ?_
  by_cases h : i < 15
  · rw [obW_low h]; rfl
  · by_cases h2 : i = 15
    · subst h2; rw [obW_at]; rfl
    · obtain rfl : i = 16 := by omega
      show (put _ _ _ _).isSome = _
      rw [Hp.put_same]
      rfl
/-- What is left: the vector alone. -/
def obL (zs : List Wd) : Obs := put noObs 15 (some (.vec zs))
theorem zero_none (S : ByteArray) (zs : List Wd) : findO (obW S zs) (0, 0) = none := findO_none fun _ o ho => by
  have ho : obW S zs 0 = some o := ho
  rw [obW_low (by omega)] at ho
  cases ho
  simp [Ob.kind]
theorem obW_collected (S : ByteArray) (zs : List Wd) (h0 : ∀ x ∈ zs, x = (0, 0)) : collected (obW S zs) [(4, 15)] = obL zs := by
  have hc := collected_of_marks (obW S zs) [(4, 15)] (fun i => decide (i = 15)) (fun i hi => by
    have hi := of_decide_eq_true hi
    subst hi
    exact Reach.root (f := obW S zs) (roots := [(4, 15)]) (4, 15) _ (by simp) (findO_mk (o := .vec zs) (by simp) (obW_at S zs) rfl)) (fun w o hw _ => by
    simp only [List.mem_cons, List.not_mem_nil, or_false] at hw
    subst hw
    simp) (fun i p w o hi hp hw ho => by
    have hi := of_decide_eq_true hi
    subst hi
    rw [obW_at] at hp
    cases hp
    rw [h0 w hw, zero_none] at ho
    cases ho)
  funext i
  rw [hc i]
  unfold obL
  by_cases hi : i = 15
  · subst hi; rw [Hp.put_same]; simp [obW_at]
  · rw [put_other _ _ _ _ hi]; simp [hi, noObs]
theorem obL_used (zs : List Wd) (hz : zs.length = 65536) : usedTo (obL zs) 40 = 65536 := by
  have h1 := usedTo_put noObs 40 15 (some (.vec zs)) (by omega)
  rw [show usedTo noObs 40 = 0 by kernel_rfl] at h1
  simp only [sizeO, Ob.size, noObs] at h1
  unfold obL
  omega
theorem obL_many (zs : List Wd) : manyTo (obL zs) 40 = 1 := by
  have h1 := manyTo_put noObs 40 15 (some (.vec zs)) (by omega)
  rw [show manyTo noObs 40 = 0 by kernel_rfl] at h1
  simp [noObs] at h1
  unfold obL
  omega
end Go.Proofs.YtcdlfgggmigcnaaDoor.Stores
