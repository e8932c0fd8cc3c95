/- The contracts of runes.Up, Down and Fold, each by its table of spans. | The contracts of runes.Is, Word and Width. | Plain mathematics of case, width and word characters. -/
import Derived.Test.YtlibdhnlmekmhaaGreatDoorMh04
import Derived.Test.YtlibdhnlmekmhaaGreatDoorMh05
/- The contracts of runes.Up, Down and Fold, each by its table of spans. -/
section
namespace Go.Proofs.YtlibdhnlmekmhaaGreatDoor.Chars
set_option maxRecDepth 100000
open Go.RowKit Go.Shelf Go.Lib Go.Sort
open Go.Proofs.YtlibdhnlmekmhaaGreatDoor.Spans Go.Proofs.YtlibdhnlmekmhaaGreatDoor.CFind Go.Proofs.YtlibdhnlmekmhaaGreatDoor.Laws

def upSpans : List Span := [(97, 122, -32), (224, 246, -32), (248, 254, -32), (945, 961, -32), (962, 962, -31), (963, 969, -32), (1072, 1103, -32), (1104, 1119, -80)]
def downSpans : List Span := [(65, 90, 32), (192, 214, 32), (216, 222, 32), (913, 929, 32), (931, 937, 32), (1024, 1039, 80), (1040, 1071, 32)]
def wordSpans : List Span := [(48, 57, 1), (65, 90, 1), (97, 122, 1), (170, 170, 1), (181, 181, 1), (186, 186, 1), (192, 214, 1), (216, 246, 1), (248, 591, 1), (768, 893, 1), (895, 902, 1), (904, 1023, 1), (1024, 1327, 1), (1488, 1514, 1), (12353, 12543, 1), (13312, 40959, 1), (44032, 55203, 1), (131072, 262141, 1)]
def widthSpans : List Span := [(0, 8, 2), (10, 31, 2), (127, 127, 2), (768, 879, 0), (1155, 1161, 0), (1425, 1469, 0), (4352, 4447, 2), (8203, 8207, 0), (8400, 8447, 0), (11904, 12350, 2), (12353, 42191, 2), (44032, 55203, 2), (63744, 64255, 2), (65024, 65039, 0), (65056, 65071, 0), (65072, 65135, 2), (65280, 65376, 2), (65504, 65510, 2), (127744, 128591, 2), (129280, 129535, 2), (131072, 262141, 2)]
/-- The cells of spans. -/
def cellsOf (l : List Span) : List Value := l.flatMap fun s => [.int .i64 s.1, .int .i64 s.2.1, .int .i64 s.2.2]

theorem cellsOf_at : ∀ (l : List Span) (i : Nat), i < l.length → (cellsOf l)[i * 3]? = some (.int .i64 (l.getD i (0, 0, 0)).1) ∧ (cellsOf l)[i * 3 + 1]? = some (.int .i64 (l.getD i (0, 0, 0)).2.1) ∧ (cellsOf l)[i * 3 + 2]? = some (.int .i64 (l.getD i (0, 0, 0)).2.2)
  | [], i, h => absurd h (by simp)
  | s :: r, 0, _ => ⟨rfl, rfl, rfl⟩
  | s :: r, i + 1, h => by
    have ih := cellsOf_at r i (by simpa using h)
    have e : cellsOf (s :: r) = [.int .i64 s.1, .int .i64 s.2.1, .int .i64 s.2.2] ++ cellsOf r := rfl
    rw [e]
    refine ⟨?_, ?_, ?_⟩
    · rw [List.getElem?_append_right (by simp; omega), show (i + 1) * 3 - [Value.int .i64 s.1, .int .i64 s.2.1, .int .i64 s.2.2].length = i * 3 by simp; omega]; exact ih.1
    · rw [List.getElem?_append_right (by simp; omega), show (i + 1) * 3 + 1 - [Value.int .i64 s.1, .int .i64 s.2.1, .int .i64 s.2.2].length = i * 3 + 1 by simp; omega]; exact ih.2.1
    · rw [List.getElem?_append_right (by simp; omega), show (i + 1) * 3 + 2 - [Value.int .i64 s.1, .int .i64 s.2.1, .int .i64 s.2.2].length = i * 3 + 2 by simp; omega]; exact ih.2.2

theorem spanRow_new (w : World) (l : List Span) (t : TypeId) : SpanRow (w.alloc (.cells (cellsOf l).toArray t)) w.heap.size l := by
  intro i hi
  obtain ⟨h1, h2, h3⟩ := cellsOf_at l i hi
  have h : ∀ j v, (cellsOf l)[j]? = some v → (w.alloc (.cells (cellsOf l).toArray t)).cell? ⟨w.heap.size, j, none⟩ = some v := by
    intro j v hv
    have hj : j < (cellsOf l).length := (List.getElem?_eq_some_iff.1 hv).1
    rw [World.cell?_alloc_at _ _ _ _ (by simp)]
    simpa using hv
  exact ⟨h _ _ h1, h _ _ h2, h _ _ h3⟩

/-- runes.find over a table that was laid last. -/
theorem table_any (l : List Span) (t : TypeId) (n : Nat) (c o : Int) (w : World) (hl : l.length = n) (ha : Rises l) (hn : n < 4611686018427387904) :
    Calls Tryz.prog 216 #[.slice (some ⟨w.heap.size, 0, none⟩) n n, .int .i64 c, .int .i64 o] (w.alloc (.cells (cellsOf l).toArray t)) fun e w' => e = .returned (.int .i64 (findR l c o)) ∧ Below w.heap.size w w' := by
  subst hl
  exact (find_any w.heap.size l.length l c o _ (spanRow_new w l t) (by simp) ha hn).mono fun e w' ⟨he, hb⟩ => ⟨he, ((Below.refl _ w).alloc (Nat.le_refl _) _).trans (hb.mono (by simp))⟩

theorem up_asc : Rises upSpans := by unfold Rises upSpans; decide
theorem down_asc : Rises downSpans := by unfold Rises downSpans; decide
theorem word_asc : Rises wordSpans := by unfold Rises wordSpans; decide
theorem width_asc : Rises widthSpans := by unfold Rises widthSpans; decide

def upZ (c : Int) : Int := c + findR upSpans c 0
def downZ (c : Int) : Int := c + findR downSpans c 0

theorem up_wf (c : Int) (h0 : -9223372036854775808 ≤ c) (h1 : c ≤ 9223372036854775807) : -9223372036854775808 ≤ upZ c ∧ upZ c ≤ 9223372036854775807 := by
  simp only [upZ, findR, upSpans]; omega
theorem down_wf (c : Int) (h0 : -9223372036854775808 ≤ c) (h1 : c ≤ 9223372036854775807) : -9223372036854775808 ≤ downZ c ∧ downZ c ≤ 9223372036854775807 := by
  simp only [downZ, findR, downSpans]; omega

set_option maxHeartbeats 400000 in
theorem down_any (c : Int) (w : World) (h0 : -9223372036854775808 ≤ c) (h1 : c ≤ 9223372036854775807) :
    Calls Tryz.prog 202 #[.int .i64 c] w fun e w' => e = .returned (.int .i64 (downZ c)) ∧ Below w.heap.size w w' := by
  have hF := table_any downSpans 216 7 c 0 w rfl down_asc (by omega)
  have hw := down_wf c h0 h1
  unfold downZ at hw ⊢
  have HF := Lib.hid hF
  clear hF
  generalize findR downSpans c 0 = r at *
  go_enter Tryz.func202, Tryz.ntmps202
  go_wp2_with (first
    | (refine wpList_buildTo rfl 216 _ rfl _ rfl (cellsOf downSpans).toArray (by kernel_rfl) ?_)
    | (refine wpList_store_new rfl 216 _ _ rfl rfl (cellsOf downSpans).toArray _ _ rfl rfl (by kernel_rfl) (by kernel_rfl) (by kernel_rfl) ?_)
    | (go_at_call 216; refine HF.out.mono ?_; rintro e w' ⟨rfl, hB⟩))
  go_ret
  exact ⟨rfl, hB⟩

/-- The fold of a character. -/
def foldZ (c : Int) : Int := downZ (upZ c)

end Go.Proofs.YtlibdhnlmekmhaaGreatDoor.Chars
end

/- The contracts of runes.Is, Word and Width. -/
section
namespace Go.Proofs.YtlibdhnlmekmhaaGreatDoor.Chars
set_option maxRecDepth 100000
open Go.RowKit Go.Shelf Go.Lib Go.Sort
open Go.Proofs.YtlibdhnlmekmhaaGreatDoor.Spans Go.Proofs.YtlibdhnlmekmhaaGreatDoor.CFind Go.Proofs.YtlibdhnlmekmhaaGreatDoor.Laws

/-- Whether an integer is a character. -/
def isZ (c : Int) : Bool := decide (0 ≤ c ∧ c ≤ 1114111 ∧ (c < 55296 ∨ 57343 < c))

set_option maxHeartbeats 400000 in
theorem is_any (c : Int) (w : World) :
    Calls Tryz.prog 213 #[.int .i64 c] w fun e w' => e = .returned (.bool (isZ c)) ∧ w = w' := by
  by_cases a0 : 0 ≤ c
  · by_cases a1 : c ≤ 1114111
    · by_cases a2 : c < 55296
      · have hz : isZ c = true := by simp [isZ]; omega
        rw [hz]
        clear hz
        go_enter Tryz.func213, Tryz.ntmps213
        go_wp2
        go_ret
        exact ⟨rfl, rfl⟩
      · by_cases a3 : 57343 < c
        · have hz : isZ c = true := by simp [isZ]; omega
          rw [hz]
          clear hz
          go_enter Tryz.func213, Tryz.ntmps213
          go_wp2
          go_ret
          exact ⟨rfl, rfl⟩
        · have hz : isZ c = false := by simp [isZ]; omega
          rw [hz]
          clear hz
          go_enter Tryz.func213, Tryz.ntmps213
          go_wp2
          go_ret
          exact ⟨rfl, rfl⟩
    · have hz : isZ c = false := by simp [isZ]; omega
      rw [hz]
      clear hz
      go_enter Tryz.func213, Tryz.ntmps213
      go_wp2
      go_ret
      exact ⟨rfl, rfl⟩
  · have hz : isZ c = false := by simp [isZ]; omega
    rw [hz]
    clear hz
    go_enter Tryz.func213, Tryz.ntmps213
    go_wp2
    go_ret
    exact ⟨rfl, rfl⟩

/-- Whether a character is a word character. -/
def wordZ (c : Int) : Bool := findR wordSpans c 0 == 1
/-- The width of an integer. -/
def widthZ (c : Int) : Int := if isZ c = true then findR widthSpans c 1 else 0

end Go.Proofs.YtlibdhnlmekmhaaGreatDoor.Chars
end

/- Plain mathematics of case, width and word characters. -/
section
namespace Go.Proofs.YtlibdhnlmekmhaaGreatDoor.Chars
set_option maxRecDepth 100000
open Go.Proofs.YtlibdhnlmekmhaaGreatDoor.Spans

theorem up_cases (c : Int) : (97 ≤ c ∧ c ≤ 122 ∧ upZ c = c - 32) ∨ (224 ≤ c ∧ c ≤ 246 ∧ upZ c = c - 32) ∨ (248 ≤ c ∧ c ≤ 254 ∧ upZ c = c - 32) ∨ (945 ≤ c ∧ c ≤ 961 ∧ upZ c = c - 32) ∨ (c = 962 ∧ upZ c = 931) ∨ (963 ≤ c ∧ c ≤ 969 ∧ upZ c = c - 32) ∨
    (1072 ≤ c ∧ c ≤ 1103 ∧ upZ c = c - 32) ∨ (1104 ≤ c ∧ c ≤ 1119 ∧ upZ c = c - 80) ∨
    ((c < 97 ∨ 122 < c) ∧ (c < 224 ∨ 246 < c) ∧ (c < 248 ∨ 254 < c) ∧ (c < 945 ∨ 969 < c) ∧ (c < 1072 ∨ 1119 < c) ∧ upZ c = c) := by
  simp only [upZ, findR, upSpans]; omega
theorem down_cases (c : Int) : (65 ≤ c ∧ c ≤ 90 ∧ downZ c = c + 32) ∨ (192 ≤ c ∧ c ≤ 214 ∧ downZ c = c + 32) ∨ (216 ≤ c ∧ c ≤ 222 ∧ downZ c = c + 32) ∨ (913 ≤ c ∧ c ≤ 929 ∧ downZ c = c + 32) ∨ (931 ≤ c ∧ c ≤ 937 ∧ downZ c = c + 32) ∨
    (1024 ≤ c ∧ c ≤ 1039 ∧ downZ c = c + 80) ∨ (1040 ≤ c ∧ c ≤ 1071 ∧ downZ c = c + 32) ∨
    ((c < 65 ∨ 90 < c) ∧ (c < 192 ∨ 214 < c) ∧ (c < 216 ∨ 222 < c) ∧ (c < 913 ∨ 929 < c) ∧ (c < 931 ∨ 937 < c) ∧ (c < 1024 ∨ 1071 < c) ∧ downZ c = c) := by
  simp only [downZ, findR, downSpans]; omega

theorem up_up (c : Int) : upZ (upZ c) = upZ c := by
  have h := up_cases (upZ c)
  rcases up_cases c with h1 | h1 | h1 | h1 | h1 | h1 | h1 | h1 | h1 <;> omega
theorem down_down (c : Int) : downZ (downZ c) = downZ c := by
  have h := down_cases (downZ c)
  rcases down_cases c with h1 | h1 | h1 | h1 | h1 | h1 | h1 | h1 <;> omega
theorem fold_up (c : Int) : foldZ (upZ c) = foldZ c := by unfold foldZ; rw [up_up]
theorem up_down (c : Int) : downZ (upZ (downZ c)) = downZ (upZ c) := by
  have h2 := up_cases (downZ c)
  have h3 := up_cases c
  rcases down_cases c with h1 | h1 | h1 | h1 | h1 | h1 | h1 | h1
  · have : upZ (downZ c) = c := by omega
    have : upZ c = c := by omega
    simp_all
  · have : upZ (downZ c) = c := by omega
    have : upZ c = c := by omega
    simp_all
  · have : upZ (downZ c) = c := by omega
    have : upZ c = c := by omega
    simp_all
  · have : upZ (downZ c) = c := by omega
    have : upZ c = c := by omega
    simp_all
  · have : upZ (downZ c) = c := by omega
    have : upZ c = c := by omega
    simp_all
  · have : upZ (downZ c) = c := by omega
    have : upZ c = c := by omega
    simp_all
  · have : upZ (downZ c) = c := by omega
    have : upZ c = c := by omega
    simp_all
  · have : downZ c = c := by omega
    rw [this]
theorem fold_down (c : Int) : foldZ (downZ c) = foldZ c := up_down c
theorem fold_fold (c : Int) : foldZ (foldZ c) = foldZ c := by
  have h := fold_down (upZ c)
  rw [fold_up] at h
  exact h

theorem isZ_iff (c : Int) : isZ c = true ↔ (0 ≤ c ∧ c ≤ 1114111 ∧ (c < 55296 ∨ 57343 < c)) := by simp [isZ]
theorem isZ_no (c : Int) (h : isZ c = false) : c < 0 ∨ 1114111 < c ∨ (55296 ≤ c ∧ c ≤ 57343) := by
  have h' : ¬ isZ c = true := by simp [h]
  rw [isZ_iff] at h'
  omega
theorem up_is (c : Int) (h : isZ c = true) : isZ (upZ c) = true := by
  rw [isZ_iff] at h ⊢
  rcases up_cases c with h1 | h1 | h1 | h1 | h1 | h1 | h1 | h1 | h1 <;> omega
theorem down_is (c : Int) (h : isZ c = true) : isZ (downZ c) = true := by
  rw [isZ_iff] at h ⊢
  rcases down_cases c with h1 | h1 | h1 | h1 | h1 | h1 | h1 | h1 <;> omega
theorem up_no (c : Int) (h : isZ c = false) : upZ c = c := by
  have h' := isZ_no c h
  rcases up_cases c with h1 | h1 | h1 | h1 | h1 | h1 | h1 | h1 | h1 <;> omega
theorem down_no (c : Int) (h : isZ c = false) : downZ c = c := by
  have h' := isZ_no c h
  rcases down_cases c with h1 | h1 | h1 | h1 | h1 | h1 | h1 | h1 <;> omega
theorem fold_no (c : Int) (h : isZ c = false) : foldZ c = c := by unfold foldZ; rw [up_no c h, down_no c h]
theorem width_no (c : Int) (h : isZ c = false) : widthZ c = 0 := by simp [widthZ, h]
theorem word_iff (c : Int) : wordZ c = true ↔ (48 ≤ c ∧ c ≤ 57) ∨ (65 ≤ c ∧ c ≤ 90) ∨ (97 ≤ c ∧ c ≤ 122) ∨ c = 170 ∨ c = 181 ∨ c = 186 ∨ (192 ≤ c ∧ c ≤ 214) ∨ (216 ≤ c ∧ c ≤ 246) ∨ (248 ≤ c ∧ c ≤ 591) ∨ (768 ≤ c ∧ c ≤ 893) ∨ (895 ≤ c ∧ c ≤ 902) ∨
    (904 ≤ c ∧ c ≤ 1023) ∨ (1024 ≤ c ∧ c ≤ 1327) ∨ (1488 ≤ c ∧ c ≤ 1514) ∨ (12353 ≤ c ∧ c ≤ 12543) ∨ (13312 ≤ c ∧ c ≤ 40959) ∨ (44032 ≤ c ∧ c ≤ 55203) ∨ (131072 ≤ c ∧ c ≤ 262141) := by
  simp only [wordZ, findR, wordSpans, beq_iff_eq]; omega
theorem word_no (c : Int) (h : isZ c = false) : wordZ c = false := by
  have h' := isZ_no c h
  rw [Bool.eq_false_iff]
  intro hw
  rw [word_iff] at hw
  omega
theorem word_case (c d : Int) (hc : (65 ≤ c ∧ c ≤ 90) ∨ (97 ≤ c ∧ c ≤ 122) ∨ (192 ≤ c ∧ c ≤ 214) ∨ (216 ≤ c ∧ c ≤ 246) ∨ (248 ≤ c ∧ c ≤ 254) ∨ (913 ≤ c ∧ c ≤ 1119)) (hd : (65 ≤ d ∧ d ≤ 90) ∨ (97 ≤ d ∧ d ≤ 122) ∨ (192 ≤ d ∧ d ≤ 214) ∨ (216 ≤ d ∧ d ≤ 246) ∨ (248 ≤ d ∧ d ≤ 254) ∨ (913 ≤ d ∧ d ≤ 1119)) : wordZ d = wordZ c := by
  have h1 : wordZ c = true := by rw [word_iff]; omega
  have h2 : wordZ d = true := by rw [word_iff]; omega
  rw [h1, h2]
theorem up_word (c : Int) : wordZ (upZ c) = wordZ c := by
  rcases up_cases c with h1 | h1 | h1 | h1 | h1 | h1 | h1 | h1 | h1
  all_goals first | (have h : upZ c = c := by omega); rw [h] | exact word_case c (upZ c) (by omega) (by omega)
theorem down_word (c : Int) : wordZ (downZ c) = wordZ c := by
  rcases down_cases c with h1 | h1 | h1 | h1 | h1 | h1 | h1 | h1
  all_goals first | (have h : downZ c = c := by omega); rw [h] | exact word_case c (downZ c) (by omega) (by omega)
theorem width_one (c : Int) (hc : (65 ≤ c ∧ c ≤ 90) ∨ (97 ≤ c ∧ c ≤ 122) ∨ (192 ≤ c ∧ c ≤ 254) ∨ (913 ≤ c ∧ c ≤ 1119)) : widthZ c = 1 := by
  have h : isZ c = true := by rw [isZ_iff]; omega
  rw [widthZ, if_pos h]
  simp only [findR, widthSpans]; omega
theorem up_width (c : Int) : widthZ (upZ c) = widthZ c := by
  rcases up_cases c with h1 | h1 | h1 | h1 | h1 | h1 | h1 | h1 | h1
  all_goals first | (have h : upZ c = c := by omega); rw [h] | (rw [width_one c (by omega), width_one (upZ c) (by omega)])
theorem down_width (c : Int) : widthZ (downZ c) = widthZ c := by
  rcases down_cases c with h1 | h1 | h1 | h1 | h1 | h1 | h1 | h1
  all_goals first | (have h : downZ c = c := by omega); rw [h] | (rw [width_one c (by omega), width_one (downZ c) (by omega)])
theorem width_range (c : Int) : 0 ≤ widthZ c ∧ widthZ c ≤ 2 := by
  unfold widthZ
  split
  · simp only [findR, widthSpans]; omega
  · omega
end Go.Proofs.YtlibdhnlmekmhaaGreatDoor.Chars
end
