/- Plain mathematics of case, width and word characters. -/
import Derived.Test.YtagcfgonajogcaaDoorChars2
namespace Go.Proofs.YtagcfgonajogcaaDoor.Chars
open Go.Proofs.YtagcfgonajogcaaDoor.Spans

theorem up_cases (c : Int) : (97 ≤ c ∧ c ≤ 122 ∧ upZ c = c - 32) ∨ (224 ≤ c ∧ c ≤ 246 ∧ upZ c = c - 32) ∨ (248 ≤ c ∧ c ≤ 254 ∧ upZ c = c - 32) ∨ (945 ≤ c ∧ c ≤ 961 ∧ upZ c = c - 32) ∨ (c = 962 ∧ upZ c = 931) ∨ (963 ≤ c ∧ c ≤ 969 ∧ upZ c = c - 32) ∨
    (1072 ≤ c ∧ c ≤ 1103 ∧ upZ c = c - 32) ∨ (1104 ≤ c ∧ c ≤ 1119 ∧ upZ c = c - 80) ∨
    ((c < 97 ∨ 122 < c) ∧ (c < 224 ∨ 246 < c) ∧ (c < 248 ∨ 254 < c) ∧ (c < 945 ∨ 969 < c) ∧ (c < 1072 ∨ 1119 < c) ∧ upZ c = c) := by
  simp only [upZ, findR, upSpans]; omega
theorem down_cases (c : Int) : (65 ≤ c ∧ c ≤ 90 ∧ downZ c = c + 32) ∨ (192 ≤ c ∧ c ≤ 214 ∧ downZ c = c + 32) ∨ (216 ≤ c ∧ c ≤ 222 ∧ downZ c = c + 32) ∨ (913 ≤ c ∧ c ≤ 929 ∧ downZ c = c + 32) ∨ (931 ≤ c ∧ c ≤ 937 ∧ downZ c = c + 32) ∨
    (1024 ≤ c ∧ c ≤ 1039 ∧ downZ c = c + 80) ∨ (1040 ≤ c ∧ c ≤ 1071 ∧ downZ c = c + 32) ∨
    ((c < 65 ∨ 90 < c) ∧ (c < 192 ∨ 214 < c) ∧ (c < 216 ∨ 222 < c) ∧ (c < 913 ∨ 929 < c) ∧ (c < 931 ∨ 937 < c) ∧ (c < 1024 ∨ 1071 < c) ∧ downZ c = c) := by
  simp only [downZ, findR, downSpans]; omega

theorem up_up (c : Int) : upZ (upZ c) = upZ c := by
  have h := up_cases (upZ c)
  rcases up_cases c with h1 | h1 | h1 | h1 | h1 | h1 | h1 | h1 | h1 <;> omega
theorem down_down (c : Int) : downZ (downZ c) = downZ c := by
  have h := down_cases (downZ c)
  rcases down_cases c with h1 | h1 | h1 | h1 | h1 | h1 | h1 | h1 <;> omega
theorem fold_up (c : Int) : foldZ (upZ c) = foldZ c := by unfold foldZ; rw [up_up]
theorem up_down (c : Int) : downZ (upZ (downZ c)) = downZ (upZ c) := by
  have h2 := up_cases (downZ c)
  have h3 := up_cases c
  rcases down_cases c with h1 | h1 | h1 | h1 | h1 | h1 | h1 | h1
  · have : upZ (downZ c) = c := by omega
    have : upZ c = c := by omega
    simp_all
  · have : upZ (downZ c) = c := by omega
    have : upZ c = c := by omega
    simp_all
  · have : upZ (downZ c) = c := by omega
    have : upZ c = c := by omega
    simp_all
  · have : upZ (downZ c) = c := by omega
    have : upZ c = c := by omega
    simp_all
  · have : upZ (downZ c) = c := by omega
    have : upZ c = c := by omega
    simp_all
  · have : upZ (downZ c) = c := by omega
    have : upZ c = c := by omega
    simp_all
  · have : upZ (downZ c) = c := by omega
    have : upZ c = c := by omega
    simp_all
  · have : downZ c = c := by omega
    rw [this]
theorem fold_down (c : Int) : foldZ (downZ c) = foldZ c := up_down c
theorem fold_fold (c : Int) : foldZ (foldZ c) = foldZ c := by
  have h := fold_down (upZ c)
  rw [fold_up] at h
  exact h

theorem isZ_iff (c : Int) : isZ c = true ↔ (0 ≤ c ∧ c ≤ 1114111 ∧ (c < 55296 ∨ 57343 < c)) := by simp [isZ]
theorem isZ_no (c : Int) (h : isZ c = false) : c < 0 ∨ 1114111 < c ∨ (55296 ≤ c ∧ c ≤ 57343) := by
  have h' : ¬ isZ c = true := by simp [h]
  rw [isZ_iff] at h'
  omega
theorem up_is (c : Int) (h : isZ c = true) : isZ (upZ c) = true := by
  rw [isZ_iff] at h ⊢
  rcases up_cases c with h1 | h1 | h1 | h1 | h1 | h1 | h1 | h1 | h1 <;> omega
theorem down_is (c : Int) (h : isZ c = true) : isZ (downZ c) = true := by
  rw [isZ_iff] at h ⊢
  rcases down_cases c with h1 | h1 | h1 | h1 | h1 | h1 | h1 | h1 <;> omega
theorem up_no (c : Int) (h : isZ c = false) : upZ c = c := by
  have h' := isZ_no c h
  rcases up_cases c with h1 | h1 | h1 | h1 | h1 | h1 | h1 | h1 | h1 <;> omega
theorem down_no (c : Int) (h : isZ c = false) : downZ c = c := by
  have h' := isZ_no c h
  rcases down_cases c with h1 | h1 | h1 | h1 | h1 | h1 | h1 | h1 <;> omega
theorem fold_no (c : Int) (h : isZ c = false) : foldZ c = c := by unfold foldZ; rw [up_no c h, down_no c h]
theorem width_no (c : Int) (h : isZ c = false) : widthZ c = 0 := by simp [widthZ, h]
theorem word_iff (c : Int) : wordZ c = true ↔ (48 ≤ c ∧ c ≤ 57) ∨ (65 ≤ c ∧ c ≤ 90) ∨ (97 ≤ c ∧ c ≤ 122) ∨ c = 170 ∨ c = 181 ∨ c = 186 ∨ (192 ≤ c ∧ c ≤ 214) ∨ (216 ≤ c ∧ c ≤ 246) ∨ (248 ≤ c ∧ c ≤ 591) ∨ (768 ≤ c ∧ c ≤ 893) ∨ (895 ≤ c ∧ c ≤ 902) ∨
    (904 ≤ c ∧ c ≤ 1023) ∨ (1024 ≤ c ∧ c ≤ 1327) ∨ (1488 ≤ c ∧ c ≤ 1514) ∨ (12353 ≤ c ∧ c ≤ 12543) ∨ (13312 ≤ c ∧ c ≤ 40959) ∨ (44032 ≤ c ∧ c ≤ 55203) ∨ (131072 ≤ c ∧ c ≤ 262141) := by
  simp only [wordZ, findR, wordSpans, beq_iff_eq]; omega
theorem word_no (c : Int) (h : isZ c = false) : wordZ c = false := by
  have h' := isZ_no c h
  rw [Bool.eq_false_iff]
  intro hw
  rw [word_iff] at hw
  omega
theorem word_case (c d : Int) (hc : (65 ≤ c ∧ c ≤ 90) ∨ (97 ≤ c ∧ c ≤ 122) ∨ (192 ≤ c ∧ c ≤ 214) ∨ (216 ≤ c ∧ c ≤ 246) ∨ (248 ≤ c ∧ c ≤ 254) ∨ (913 ≤ c ∧ c ≤ 1119)) (hd : (65 ≤ d ∧ d ≤ 90) ∨ (97 ≤ d ∧ d ≤ 122) ∨ (192 ≤ d ∧ d ≤ 214) ∨ (216 ≤ d ∧ d ≤ 246) ∨ (248 ≤ d ∧ d ≤ 254) ∨ (913 ≤ d ∧ d ≤ 1119)) : wordZ d = wordZ c := by
  have h1 : wordZ c = true := by rw [word_iff]; omega
  have h2 : wordZ d = true := by rw [word_iff]; omega
  rw [h1, h2]
theorem up_word (c : Int) : wordZ (upZ c) = wordZ c := by
  rcases up_cases c with h1 | h1 | h1 | h1 | h1 | h1 | h1 | h1 | h1
  all_goals first | (have h : upZ c = c := by omega); rw [h] | exact word_case c (upZ c) (by omega) (by omega)
theorem down_word (c : Int) : wordZ (downZ c) = wordZ c := by
  rcases down_cases c with h1 | h1 | h1 | h1 | h1 | h1 | h1 | h1
  all_goals first | (have h : downZ c = c := by omega); rw [h] | exact word_case c (downZ c) (by omega) (by omega)
theorem width_one (c : Int) (hc : (65 ≤ c ∧ c ≤ 90) ∨ (97 ≤ c ∧ c ≤ 122) ∨ (192 ≤ c ∧ c ≤ 254) ∨ (913 ≤ c ∧ c ≤ 1119)) : widthZ c = 1 := by
  have h : isZ c = true := by rw [isZ_iff]; omega
  rw [widthZ, if_pos h]
  simp only [findR, widthSpans]; omega
theorem up_width (c : Int) : widthZ (upZ c) = widthZ c := by
  rcases up_cases c with h1 | h1 | h1 | h1 | h1 | h1 | h1 | h1 | h1
  all_goals first | (have h : upZ c = c := by omega); rw [h] | (rw [width_one c (by omega), width_one (upZ c) (by omega)])
theorem down_width (c : Int) : widthZ (downZ c) = widthZ c := by
  rcases down_cases c with h1 | h1 | h1 | h1 | h1 | h1 | h1 | h1
  all_goals first | (have h : downZ c = c := by omega); rw [h] | (rw [width_one c (by omega), width_one (downZ c) (by omega)])
theorem width_range (c : Int) : 0 ≤ widthZ c ∧ widthZ c ≤ 2 := by
  unfold widthZ
  split
  · simp only [findR, widthSpans]; omega
  · omega
end Go.Proofs.YtagcfgonajogcaaDoor.Chars
