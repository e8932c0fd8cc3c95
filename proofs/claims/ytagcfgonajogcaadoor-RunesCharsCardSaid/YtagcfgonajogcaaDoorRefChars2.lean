/- The contracts of the reference's Width and Word. -/
import Derived.Test.YtagcfgonajogcaaDoorRefChars
namespace Go.Proofs.YtagcfgonajogcaaDoor.RefChars
open Go.RowKit Go.Shelf Go.Lib
open Go.Proofs.YtagcfgonajogcaaDoor.Chars Go.Proofs.YtagcfgonajogcaaDoor.Spans

theorem word_ref (c : Int) : inL wordL c = wordZ c := by
  rw [Bool.eq_iff_iff, word_iff]
  simp only [inL, wordL, Bool.or_eq_true, Bool.and_eq_true, decide_eq_true_eq, Bool.false_eq_true, or_false]
  omega
theorem width_ref (c : Int) : widthZ c = if isZ c = false ∨ inL noneL c = true then 0 else if inL twoL c = true then 2 else 1 := by
  cases hi : isZ c
  · rw [width_no c hi, if_pos (.inl rfl)]
  · have e1 : (inL noneL c = true) = ((768 ≤ c ∧ c ≤ 879) ∨ (1155 ≤ c ∧ c ≤ 1161) ∨ (1425 ≤ c ∧ c ≤ 1469) ∨ (8203 ≤ c ∧ c ≤ 8207) ∨ (8400 ≤ c ∧ c ≤ 8447) ∨ (65024 ≤ c ∧ c ≤ 65039) ∨ (65056 ≤ c ∧ c ≤ 65071)) := by
      simp only [inL, noneL, Bool.or_eq_true, Bool.and_eq_true, decide_eq_true_eq, Bool.false_eq_true, or_false]
    have e2 : (inL twoL c = true) = ((0 ≤ c ∧ c ≤ 8) ∨ (10 ≤ c ∧ c ≤ 31) ∨ (127 ≤ c ∧ c ≤ 127) ∨ (4352 ≤ c ∧ c ≤ 4447) ∨ (11904 ≤ c ∧ c ≤ 12350) ∨ (12353 ≤ c ∧ c ≤ 42191) ∨ (44032 ≤ c ∧ c ≤ 55203) ∨ (63744 ≤ c ∧ c ≤ 64255) ∨ (65072 ≤ c ∧ c ≤ 65135) ∨ (65280 ≤ c ∧ c ≤ 65376) ∨ (65504 ≤ c ∧ c ≤ 65510) ∨ (127744 ≤ c ∧ c ≤ 128591) ∨ (129280 ≤ c ∧ c ≤ 129535) ∨ (131072 ≤ c ∧ c ≤ 262141)) := by
      simp only [inL, twoL, Bool.or_eq_true, Bool.and_eq_true, decide_eq_true_eq, Bool.false_eq_true, or_false]
    have hc := (isZ_iff c).1 hi
    have hw : widthZ c = findR widthSpans c 1 := by rw [widthZ, if_pos hi]
    rw [hw]
    by_cases h1 : inL noneL c = true
    · rw [if_pos (.inr h1)]
      rw [e1] at h1
      simp only [findR, widthSpans]; omega
    · rw [if_neg (by simp [h1])]
      rw [e1] at h1
      by_cases h2 : inL twoL c = true
      · rw [if_pos h2]
        rw [e2] at h2
        simp only [findR, widthSpans]; omega
      · rw [if_neg h2]
        rw [e2] at h2
        simp only [findR, widthSpans]; omega

set_option maxHeartbeats 1000000 in
theorem ref_word_any (c : Int) (w : World) :
    Calls Tryd.prog 36 #[.int .i64 c] w fun e w' => e = .returned (.bool (wordZ c)) ∧ Below w.heap.size w w' := by
  have h := in_any w.heap.size 36 36 wordL c (w.alloc (.cells (wordL.map (Value.int .i64)).toArray 3)) rfl (by omega) (fun j hj => row_new w wordL _ j hj)
  rw [word_ref] at h
  generalize wordZ c = r at *
  have H := Lib.hid h
  clear h
  go_enter Tryd.func36, Tryd.ntmps36
  go_wp2_with (first
    | (refine wpList_buildFlat rfl 27 3 36 _ rfl .i64 wordL Tryd.underlying27 (by kernel_rfl) (by kernel_rfl) (by kernel_rfl) (by omega) (by omega) (by kernel_rfl) ?_)
    | (go_at_call 46; refine H.out.mono ?_; rintro e w' ⟨rfl, rfl⟩))
  go_ret
  exact ⟨rfl, (Below.refl _ _).alloc (Nat.le_refl _) _⟩

set_option maxHeartbeats 1000000 in
theorem width_walk (c : Int) (i n2 n0 : Bool) (W1 W2 w : World) (hW1 : W1 = w.alloc (.cells (noneL.map (Value.int .i64)).toArray 3)) (hW2 : W2 = W1.alloc (.cells (twoL.map (Value.int .i64)).toArray 3))
    (HI : Hid (Calls Tryd.prog 31 #[.int .i64 c] W2 fun e w' => e = .returned (.bool i) ∧ W2 = w'))
    (HN : Hid (Calls Tryd.prog 46 #[.int .i64 c, .slice (some ⟨w.heap.size, 0, none⟩) 14 14] W2 fun e w' => e = .returned (.bool n0) ∧ W2 = w'))
    (HT : Hid (Calls Tryd.prog 46 #[.int .i64 c, .slice (some ⟨w.heap.size + 1, 0, none⟩) 28 28] W2 fun e w' => e = .returned (.bool n2) ∧ W2 = w')) :
    Calls Tryd.prog 32 #[.int .i64 c] w fun e w' => e = .returned (.int .i64 (if i = false ∨ n0 = true then 0 else if n2 = true then 2 else 1)) ∧ Below w.heap.size w w' := by
  subst hW1
  subst hW2
  cases i
  · rw [if_pos (.inl rfl)]
    clear HN HT
    go_enter Tryd.func32, Tryd.ntmps32
    go_wp2_with (first
      | (refine wpList_buildFlat rfl 27 3 14 _ rfl .i64 noneL Tryd.underlying27 (by kernel_rfl) (by kernel_rfl) (by kernel_rfl) (by omega) (by omega) (by kernel_rfl) ?_)
      | (refine wpList_buildFlat rfl 27 3 28 _ rfl .i64 twoL Tryd.underlying27 (by kernel_rfl) (by kernel_rfl) (by kernel_rfl) (by omega) (by omega) (by kernel_rfl) ?_)
      | (go_at_call 31; refine HI.out.mono ?_; rintro e w' ⟨rfl, rfl⟩))
    go_ret
    exact ⟨rfl, ((Below.refl _ _).alloc (Nat.le_refl _) _).alloc (by simp) _⟩
  · cases n0
    · rw [if_neg (by simp)]
      cases n2
      · rw [if_neg (by simp)]
        go_enter Tryd.func32, Tryd.ntmps32
        go_wp2_with (first
          | (refine wpList_buildFlat rfl 27 3 14 _ rfl .i64 noneL Tryd.underlying27 (by kernel_rfl) (by kernel_rfl) (by kernel_rfl) (by omega) (by omega) (by kernel_rfl) ?_)
          | (refine wpList_buildFlat rfl 27 3 28 _ rfl .i64 twoL Tryd.underlying27 (by kernel_rfl) (by kernel_rfl) (by kernel_rfl) (by omega) (by omega) (by kernel_rfl) ?_)
          | (go_at_call 31; refine HI.out.mono ?_; rintro e w' ⟨rfl, rfl⟩))
        refine HN.out.mono ?_
        rintro e w' ⟨rfl, rfl⟩
        go_wp2_with (fail)
        refine HT.out.mono ?_
        rintro e w' ⟨rfl, rfl⟩
        go_wp2_with (fail)
        go_ret
        exact ⟨rfl, ((Below.refl _ _).alloc (Nat.le_refl _) _).alloc (by simp) _⟩
      · rw [if_pos rfl]
        go_enter Tryd.func32, Tryd.ntmps32
        go_wp2_with (first
          | (refine wpList_buildFlat rfl 27 3 14 _ rfl .i64 noneL Tryd.underlying27 (by kernel_rfl) (by kernel_rfl) (by kernel_rfl) (by omega) (by omega) (by kernel_rfl) ?_)
          | (refine wpList_buildFlat rfl 27 3 28 _ rfl .i64 twoL Tryd.underlying27 (by kernel_rfl) (by kernel_rfl) (by kernel_rfl) (by omega) (by omega) (by kernel_rfl) ?_)
          | (go_at_call 31; refine HI.out.mono ?_; rintro e w' ⟨rfl, rfl⟩))
        refine HN.out.mono ?_
        rintro e w' ⟨rfl, rfl⟩
        go_wp2_with (fail)
        refine HT.out.mono ?_
        rintro e w' ⟨rfl, rfl⟩
        go_wp2_with (fail)
        go_ret
        exact ⟨rfl, ((Below.refl _ _).alloc (Nat.le_refl _) _).alloc (by simp) _⟩
    · rw [if_pos (.inr rfl)]
      clear HT
      go_enter Tryd.func32, Tryd.ntmps32
      go_wp2_with (first
        | (refine wpList_buildFlat rfl 27 3 14 _ rfl .i64 noneL Tryd.underlying27 (by kernel_rfl) (by kernel_rfl) (by kernel_rfl) (by omega) (by omega) (by kernel_rfl) ?_)
        | (refine wpList_buildFlat rfl 27 3 28 _ rfl .i64 twoL Tryd.underlying27 (by kernel_rfl) (by kernel_rfl) (by kernel_rfl) (by omega) (by omega) (by kernel_rfl) ?_)
        | (go_at_call 31; refine HI.out.mono ?_; rintro e w' ⟨rfl, rfl⟩))
      refine HN.out.mono ?_
      rintro e w' ⟨rfl, rfl⟩
      go_wp2_with (fail)
      go_ret
      exact ⟨rfl, ((Below.refl _ _).alloc (Nat.le_refl _) _).alloc (by simp) _⟩

theorem ref_width_any (c : Int) (w : World) :
    Calls Tryd.prog 32 #[.int .i64 c] w fun e w' => e = .returned (.int .i64 (widthZ c)) ∧ Below w.heap.size w w' := by
  rw [width_ref]
  obtain ⟨W1, hW1⟩ : ∃ W1, W1 = w.alloc (.cells (noneL.map (Value.int .i64)).toArray 3) := ⟨_, rfl⟩
  obtain ⟨W2, hW2⟩ : ∃ W2, W2 = W1.alloc (.cells (twoL.map (Value.int .i64)).toArray 3) := ⟨_, rfl⟩
  have hz : W1.heap.size = w.heap.size + 1 := by rw [hW1]; simp
  refine width_walk c _ _ _ W1 W2 w hW1 hW2 (ref_is_any c W2) (in_any w.heap.size 14 14 noneL c W2 rfl (by omega) (fun j hj => ?_)) (in_any (w.heap.size + 1) 28 28 twoL c W2 rfl (by omega) (fun j hj => ?_))
  · rw [hW2, hW1]; exact cell_more (row_new w noneL _ j hj) _
  · rw [hW2, ← hz]; exact row_new W1 twoL _ j hj
end Go.Proofs.YtagcfgonajogcaaDoor.RefChars
