/- The contracts of runes.Is, Word and Width. -/
import Derived.Test.YtagcfgonajogcaaDoorChars
namespace Go.Proofs.YtagcfgonajogcaaDoor.Chars
open Go.RowKit Go.Shelf Go.Lib Go.Sort
open Go.Proofs.YtagcfgonajogcaaDoor.Spans Go.Proofs.YtagcfgonajogcaaDoor.Find Go.Proofs.YtagcfgonajogcaaDoor.Laws

/-- Whether an integer is a character. -/
def isZ (c : Int) : Bool := decide (0 ≤ c ∧ c ≤ 1114111 ∧ (c < 55296 ∨ 57343 < c))

set_option maxHeartbeats 400000 in
theorem is_any (c : Int) (w : World) :
    Calls Tryd.prog 21 #[.int .i64 c] w fun e w' => e = .returned (.bool (isZ c)) ∧ w = w' := by
  by_cases a0 : 0 ≤ c
  · by_cases a1 : c ≤ 1114111
    · by_cases a2 : c < 55296
      · have hz : isZ c = true := by simp [isZ]; omega
        rw [hz]
        clear hz
        go_enter Tryd.func21, Tryd.ntmps21
        go_wp2
        go_ret
        exact ⟨rfl, rfl⟩
      · by_cases a3 : 57343 < c
        · have hz : isZ c = true := by simp [isZ]; omega
          rw [hz]
          clear hz
          go_enter Tryd.func21, Tryd.ntmps21
          go_wp2
          go_ret
          exact ⟨rfl, rfl⟩
        · have hz : isZ c = false := by simp [isZ]; omega
          rw [hz]
          clear hz
          go_enter Tryd.func21, Tryd.ntmps21
          go_wp2
          go_ret
          exact ⟨rfl, rfl⟩
    · have hz : isZ c = false := by simp [isZ]; omega
      rw [hz]
      clear hz
      go_enter Tryd.func21, Tryd.ntmps21
      go_wp2
      go_ret
      exact ⟨rfl, rfl⟩
  · have hz : isZ c = false := by simp [isZ]; omega
    rw [hz]
    clear hz
    go_enter Tryd.func21, Tryd.ntmps21
    go_wp2
    go_ret
    exact ⟨rfl, rfl⟩

/-- Whether a character is a word character. -/
def wordZ (c : Int) : Bool := findR wordSpans c 0 == 1
/-- The width of an integer. -/
def widthZ (c : Int) : Int := if isZ c = true then findR widthSpans c 1 else 0

set_option maxHeartbeats 1000000 in
theorem word_any (c : Int) (w : World) :
    Calls Tryd.prog 19 #[.int .i64 c] w fun e w' => e = .returned (.bool (wordZ c)) ∧ Below w.heap.size w w' := by
  have hF := table_any wordSpans 60 18 c 0 w rfl word_asc (by omega)
  unfold wordZ
  have HF := Lib.hid hF
  clear hF
  generalize findR wordSpans c 0 = r at *
  go_enter Tryd.func19, Tryd.ntmps19
  go_wp2_with (first
    | (refine wpList_buildTo rfl 60 _ rfl _ rfl (cellsOf wordSpans).toArray (by kernel_rfl) ?_)
    | (refine wpList_store_new rfl 60 _ _ rfl rfl (cellsOf wordSpans).toArray _ _ rfl rfl (by kernel_rfl) (by kernel_rfl) (by kernel_rfl) ?_)
    | (go_at_call 42; refine HF.out.mono ?_; rintro e w' ⟨rfl, hB⟩))
  go_ret
  exact ⟨rfl, hB⟩

set_option maxHeartbeats 1000000 in
theorem width_any (c : Int) (w : World) :
    Calls Tryd.prog 15 #[.int .i64 c] w fun e w' => e = .returned (.int .i64 (widthZ c)) ∧ Below w.heap.size w w' := by
  have hF := table_any widthSpans 55 21 c 1 w rfl width_asc (by omega)
  have hI := is_any c w
  unfold widthZ
  have HF := Lib.hid hF
  have HI := Lib.hid hI
  clear hF hI
  generalize findR widthSpans c 1 = r at *
  generalize isZ c = b at *
  cases b
  · rw [if_neg (by simp)]
    go_enter Tryd.func15, Tryd.ntmps15
    go_wp2_with (go_at_call 21; refine HI.out.mono ?_; rintro e w' ⟨rfl, rfl⟩)
    go_ret
    exact ⟨rfl, Below.refl _ _⟩
  · rw [if_pos rfl]
    go_enter Tryd.func15, Tryd.ntmps15
    go_wp2_with (first
      | (go_at_call 21; refine HI.out.mono ?_; rintro e w' ⟨rfl, rfl⟩)
      | (refine wpList_buildTo rfl 55 _ rfl _ rfl (cellsOf widthSpans).toArray (by kernel_rfl) ?_)
      | (refine wpList_store_new rfl 55 _ _ rfl rfl (cellsOf widthSpans).toArray _ _ rfl rfl (by kernel_rfl) (by kernel_rfl) (by kernel_rfl) ?_)
      | (go_at_call 42; refine HF.out.mono ?_; rintro e w' ⟨rfl, hB⟩))
    go_ret
    exact ⟨rfl, hB⟩
end Go.Proofs.YtagcfgonajogcaaDoor.Chars
