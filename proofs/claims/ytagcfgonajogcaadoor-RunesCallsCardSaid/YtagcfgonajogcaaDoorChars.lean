/- The contracts of runes.Up, Down and Fold, each by its table of spans. -/
import Derived.Test.YtagcfgonajogcaaDoorFind
import Derived.Test.YtagcfgonajogcaaDoorLaws
namespace Go.Proofs.YtagcfgonajogcaaDoor.Chars
open Go.RowKit Go.Shelf Go.Lib Go.Sort
open Go.Proofs.YtagcfgonajogcaaDoor.Spans Go.Proofs.YtagcfgonajogcaaDoor.Find Go.Proofs.YtagcfgonajogcaaDoor.Laws

def upSpans : List Span := [(97, 122, -32), (224, 246, -32), (248, 254, -32), (945, 961, -32), (962, 962, -31), (963, 969, -32), (1072, 1103, -32), (1104, 1119, -80)]
def downSpans : List Span := [(65, 90, 32), (192, 214, 32), (216, 222, 32), (913, 929, 32), (931, 937, 32), (1024, 1039, 80), (1040, 1071, 32)]
def wordSpans : List Span := [(48, 57, 1), (65, 90, 1), (97, 122, 1), (170, 170, 1), (181, 181, 1), (186, 186, 1), (192, 214, 1), (216, 246, 1), (248, 591, 1), (768, 893, 1), (895, 902, 1), (904, 1023, 1), (1024, 1327, 1), (1488, 1514, 1), (12353, 12543, 1), (13312, 40959, 1), (44032, 55203, 1), (131072, 262141, 1)]
def widthSpans : List Span := [(0, 8, 2), (10, 31, 2), (127, 127, 2), (768, 879, 0), (1155, 1161, 0), (1425, 1469, 0), (4352, 4447, 2), (8203, 8207, 0), (8400, 8447, 0), (11904, 12350, 2), (12353, 42191, 2), (44032, 55203, 2), (63744, 64255, 2), (65024, 65039, 0), (65056, 65071, 0), (65072, 65135, 2), (65280, 65376, 2), (65504, 65510, 2), (127744, 128591, 2), (129280, 129535, 2), (131072, 262141, 2)]
/-- The cells of spans. -/
def cellsOf (l : List Span) : List Value := l.flatMap fun s => [.int .i64 s.1, .int .i64 s.2.1, .int .i64 s.2.2]

theorem cellsOf_at : ∀ (l : List Span) (i : Nat), i < l.length → (cellsOf l)[i * 3]? = some (.int .i64 (l.getD i (0, 0, 0)).1) ∧ (cellsOf l)[i * 3 + 1]? = some (.int .i64 (l.getD i (0, 0, 0)).2.1) ∧ (cellsOf l)[i * 3 + 2]? = some (.int .i64 (l.getD i (0, 0, 0)).2.2)
  | [], i, h => absurd h (by simp)
  | s :: r, 0, _ => ⟨rfl, rfl, rfl⟩
  | s :: r, i + 1, h => by
    have ih := cellsOf_at r i (by simpa using h)
    have e : cellsOf (s :: r) = [.int .i64 s.1, .int .i64 s.2.1, .int .i64 s.2.2] ++ cellsOf r := rfl
    rw [e]
    refine ⟨?_, ?_, ?_⟩
    · rw [List.getElem?_append_right (by simp; omega), show (i + 1) * 3 - [Value.int .i64 s.1, .int .i64 s.2.1, .int .i64 s.2.2].length = i * 3 by simp; omega]; exact ih.1
    · rw [List.getElem?_append_right (by simp; omega), show (i + 1) * 3 + 1 - [Value.int .i64 s.1, .int .i64 s.2.1, .int .i64 s.2.2].length = i * 3 + 1 by simp; omega]; exact ih.2.1
    · rw [List.getElem?_append_right (by simp; omega), show (i + 1) * 3 + 2 - [Value.int .i64 s.1, .int .i64 s.2.1, .int .i64 s.2.2].length = i * 3 + 2 by simp; omega]; exact ih.2.2

theorem spanRow_new (w : World) (l : List Span) (t : TypeId) : SpanRow (w.alloc (.cells (cellsOf l).toArray t)) w.heap.size l := by
  intro i hi
  obtain ⟨h1, h2, h3⟩ := cellsOf_at l i hi
  have h : ∀ j v, (cellsOf l)[j]? = some v → (w.alloc (.cells (cellsOf l).toArray t)).cell? ⟨w.heap.size, j, none⟩ = some v := by
    intro j v hv
    have hj : j < (cellsOf l).length := (List.getElem?_eq_some_iff.1 hv).1
    rw [World.cell?_alloc_at _ _ _ _ (by simp)]
    simpa using hv
  exact ⟨h _ _ h1, h _ _ h2, h _ _ h3⟩

/-- runes.find over a table that was laid last. -/
theorem table_any (l : List Span) (t : TypeId) (n : Nat) (c o : Int) (w : World) (hl : l.length = n) (ha : Rises l) (hn : n < 4611686018427387904) :
    Calls Tryd.prog 42 #[.slice (some ⟨w.heap.size, 0, none⟩) n n, .int .i64 c, .int .i64 o] (w.alloc (.cells (cellsOf l).toArray t)) fun e w' => e = .returned (.int .i64 (findR l c o)) ∧ Below w.heap.size w w' := by
  subst hl
  exact (find_any w.heap.size l.length l c o _ (spanRow_new w l t) (by simp) ha hn).mono fun e w' ⟨he, hb⟩ => ⟨he, ((Below.refl _ w).alloc (Nat.le_refl _) _).trans (hb.mono (by simp))⟩

theorem up_asc : Rises upSpans := by unfold Rises upSpans; decide
theorem down_asc : Rises downSpans := by unfold Rises downSpans; decide
theorem word_asc : Rises wordSpans := by unfold Rises wordSpans; decide
theorem width_asc : Rises widthSpans := by unfold Rises widthSpans; decide

def upZ (c : Int) : Int := c + findR upSpans c 0
def downZ (c : Int) : Int := c + findR downSpans c 0

theorem up_wf (c : Int) (h0 : -9223372036854775808 ≤ c) (h1 : c ≤ 9223372036854775807) : -9223372036854775808 ≤ upZ c ∧ upZ c ≤ 9223372036854775807 := by
  simp only [upZ, findR, upSpans]; omega
theorem down_wf (c : Int) (h0 : -9223372036854775808 ≤ c) (h1 : c ≤ 9223372036854775807) : -9223372036854775808 ≤ downZ c ∧ downZ c ≤ 9223372036854775807 := by
  simp only [downZ, findR, downSpans]; omega

set_option maxHeartbeats 400000 in
theorem up_any (c : Int) (w : World) (h0 : -9223372036854775808 ≤ c) (h1 : c ≤ 9223372036854775807) :
    Calls Tryd.prog 16 #[.int .i64 c] w fun e w' => e = .returned (.int .i64 (upZ c)) ∧ Below w.heap.size w w' := by
  have hF := table_any upSpans 58 8 c 0 w rfl up_asc (by omega)
  have hw := up_wf c h0 h1
  unfold upZ at hw ⊢
  have HF := Lib.hid hF
  clear hF
  generalize findR upSpans c 0 = r at *
  go_enter Tryd.func16, Tryd.ntmps16
  go_wp2_with (first
    | (refine wpList_buildTo rfl 58 _ rfl _ rfl (cellsOf upSpans).toArray (by kernel_rfl) ?_)
    | (refine wpList_store_new rfl 58 _ _ rfl rfl (cellsOf upSpans).toArray _ _ rfl rfl (by kernel_rfl) (by kernel_rfl) (by kernel_rfl) ?_)
    | (go_at_call 42; refine HF.out.mono ?_; rintro e w' ⟨rfl, hB⟩))
  go_ret
  exact ⟨rfl, hB⟩

set_option maxHeartbeats 400000 in
theorem down_any (c : Int) (w : World) (h0 : -9223372036854775808 ≤ c) (h1 : c ≤ 9223372036854775807) :
    Calls Tryd.prog 18 #[.int .i64 c] w fun e w' => e = .returned (.int .i64 (downZ c)) ∧ Below w.heap.size w w' := by
  have hF := table_any downSpans 59 7 c 0 w rfl down_asc (by omega)
  have hw := down_wf c h0 h1
  unfold downZ at hw ⊢
  have HF := Lib.hid hF
  clear hF
  generalize findR downSpans c 0 = r at *
  go_enter Tryd.func18, Tryd.ntmps18
  go_wp2_with (first
    | (refine wpList_buildTo rfl 59 _ rfl _ rfl (cellsOf downSpans).toArray (by kernel_rfl) ?_)
    | (refine wpList_store_new rfl 59 _ _ rfl rfl (cellsOf downSpans).toArray _ _ rfl rfl (by kernel_rfl) (by kernel_rfl) (by kernel_rfl) ?_)
    | (go_at_call 42; refine HF.out.mono ?_; rintro e w' ⟨rfl, hB⟩))
  go_ret
  exact ⟨rfl, hB⟩

/-- The fold of a character. -/
def foldZ (c : Int) : Int := downZ (upZ c)

set_option maxHeartbeats 400000 in
theorem fold_any (c : Int) (w : World) (h0 : -9223372036854775808 ≤ c) (h1 : c ≤ 9223372036854775807) :
    Calls Tryd.prog 17 #[.int .i64 c] w fun e w' => e = .returned (.int .i64 (foldZ c)) ∧ Below w.heap.size w w' := by
  have hu := up_wf c h0 h1
  unfold foldZ
  have H1 := Lib.hid (up_any c w h0 h1)
  have H2 := Lib.hid (fun w' => down_any (upZ c) w' hu.1 hu.2)
  generalize downZ (upZ c) = d at *
  generalize upZ c = u at *
  go_enter Tryd.func17, Tryd.ntmps17
  go_wp2_with (first
    | (go_at_call 16; refine H1.out.mono ?_; rintro e w1 ⟨rfl, hB1⟩)
    | (go_at_call 18; refine (H2.out _).mono ?_; rintro e w2 ⟨rfl, hB2⟩))
  go_ret
  exact ⟨rfl, hB1.trans (hB2.mono hB1.size)⟩
end Go.Proofs.YtagcfgonajogcaaDoor.Chars
