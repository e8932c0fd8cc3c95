/- Small laws on worlds and operations that the walks of this seat use. | The contracts of runes.Up, Down and Fold, each by its table of spans. | The contracts of runes.Is, Word and Width. | Plain mathematics of case, width and word characters. | Plain mathematics of UTF-8: valid strings are the encodings of lists of characters, and the only ones. -/
import Derived.WalkKit
import Derived.Laws.Tables
import Derived.Great.BuildSlice
import Derived.Maps.AppendAt
import Derived.OwnWalk
import Derived.Test.YtlibdhnlmekmhaaGreatDoorMg04
import Derived.Test.YtlibdhnlmekmhaaGreatDoorMg13
/- Small laws on worlds and operations that the walks of this seat use. -/
section
namespace Go.Proofs.YtlibdhnlmekmhaaGreatDoor.Laws
open Go.RowKit

theorem alloc_setRow (w : World) (old cells : Array Value) (t : TypeId) : (w.alloc (.cells old t)).setRow w.heap.size cells = w.alloc (.cells cells t) := by
  unfold World.setRow World.alloc
  congr 1
  apply Array.ext
  · simp
  · intro i h1 h2
    simp only [Array.getElem_modify, Array.getElem_push]
    split
    · rename_i h
      subst h
      simp
    · split
      · rfl
      · simp_all; omega

section
variable {P : Program}
/-- A whole array or struct stored into the block that was laid last. -/
theorem wpList_store_new {ops : Array Oper} {rest : List Oper} {o : Oper} {a : Act} {w : World} {Q : Exit → Act → World → Prop} (hgd : o.guard = none) (ty : TypeId) (x y : Operand) (ho : o.op = .store ty x y) (hdst : o.dst = none)
    (cells old : Array Value) (t : TypeId) (hx : a.eval x = .pointer (some ⟨w.heap.size, 0, none⟩)) (hy : a.eval y = .agg cells)
    (hi : (P.info? ty).map (·.size) = some cells.size) (hold : old.size = cells.size) (h1 : cells.all (·.oneCell') = true)
    (h : wpList P ops Q rest a (w.alloc (.cells cells t))) : wpList P ops Q (o :: rest) a (w.alloc (.cells old t)) := by
  refine wpList_store_row hgd ty x y ho w.heap.size cells hx hy t old (heap_alloc_new w _) hi hold h1 ?_
  rw [alloc_setRow, hdst]
  exact h

/-- append of a slice that lies in memory onto a row of the call's own, the operation guarded or not. -/
theorem wpList_append_at {ops : Array Oper} {rest : List Oper} {o : Oper} {a : Act} {w : World} {Q : Exit → Act → World → Prop} (hw : Region.wanted o (yielded ops a.tmps) = true) (s x : Operand) (t : TypeId)
    (ho : o.op = .call { callee := .builtin .append, args := #[s, x], argTypes := #[t, t] })
    (base : Nat) (e : TypeId) (i : TypeInfo) (z : Value) (size bytes : Nat) (ht : P.underlying t = some (.slice e)) (hi : P.info? e = some i) (hz : i.zero = some z)
    (hsize : i.size = size) (hby : i.bytes = bytes) (hzs : z.cells.size = size) (hsz : 0 < size)
    (v : Value) (n : Nat) (xs : List Value) (hs : a.eval s = v) (hown : w.ownsRow base e size v n xs)
    (ad : Addr) (m c : Nat) (news : List Value) (hx : a.eval x = .slice (some ad) m c) (hl : news.length = m * size) (hnews : ∀ j u, news[j]? = some u → w.cell? (ad.add j) = some u) (h1 : ∀ u ∈ news, u.oneCell' = true)
    (h63 : n + m ≤ maxLen) (hbytes : (n + m) * bytes ≤ 140737488355328) (hbase : base ≤ w.heap.size)
    (h : ∀ v' w', w'.ownsRow base e size v' (n + m) (xs ++ news) → w.grownBy w' v.ownBlock → wpList P ops Q rest (a.put o.dst v') w') : wpList P ops Q (o :: rest) a w := by
  obtain ⟨v', w', hrun, h2, h3, _⟩ := run_append_own_at (P := P) w base t o.type e i z size bytes ht hi hz hsize hby hzs hsz v n xs hown ad m c news hl hnews h1 h63 hbytes hbase
  unfold wpList
  rw [if_pos hw]
  left
  unfold Oper.wp execOp
  simp only [ho, resolve, invoke, builtin, Sem.run_bind, Sem.run_pure, Result.andThen_ok, List.map_toArray, List.map_cons, List.map_nil, hs, hx, hrun]
  exact h v' w' h2 h3
/-- An owned row stays in a world that has only grown. -/
theorem owns_below {w w' : World} {base : Nat} {e : TypeId} {size : Nat} {v : Value} {n : Nat} {xs : List Value} (h : w.ownsRow base e size v n xs) (hb : Below w.heap.size w w') : w'.ownsRow base e size v n xs := by
  refine ⟨h.1, ?_⟩
  rcases h.2 with h0 | ⟨g, cap, cur, hv, hbg, hg, rest⟩
  · exact .inl h0
  · exact .inr ⟨g, cap, cur, hv, hbg, (hb.block g (Array.getElem?_eq_some_iff.1 hg).1).trans hg, rest⟩
theorem owns_base {w : World} {base base' : Nat} {e : TypeId} {size : Nat} {v : Value} {n : Nat} {xs : List Value} (h : w.ownsRow base e size v n xs) (hb : base' ≤ base) : w.ownsRow base' e size v n xs := by
  refine ⟨h.1, ?_⟩
  rcases h.2 with h0 | ⟨g, cap, cur, hv, hbg, rest⟩
  · exact .inl h0
  · exact .inr ⟨g, cap, cur, hv, by omega, rest⟩
end
end Go.Proofs.YtlibdhnlmekmhaaGreatDoor.Laws
end

/- The contracts of runes.Up, Down and Fold, each by its table of spans. -/
section
namespace Go.Proofs.YtlibdhnlmekmhaaGreatDoor.Chars
set_option maxRecDepth 100000
open Go.RowKit Go.Shelf Go.Lib Go.Sort
open Go.Proofs.YtlibdhnlmekmhaaGreatDoor.Spans Go.Proofs.YtlibdhnlmekmhaaGreatDoor.CFind Go.Proofs.YtlibdhnlmekmhaaGreatDoor.Laws

def upSpans : List Span := [(97, 122, -32), (224, 246, -32), (248, 254, -32), (945, 961, -32), (962, 962, -31), (963, 969, -32), (1072, 1103, -32), (1104, 1119, -80)]
def downSpans : List Span := [(65, 90, 32), (192, 214, 32), (216, 222, 32), (913, 929, 32), (931, 937, 32), (1024, 1039, 80), (1040, 1071, 32)]
def wordSpans : List Span := [(48, 57, 1), (65, 90, 1), (97, 122, 1), (170, 170, 1), (181, 181, 1), (186, 186, 1), (192, 214, 1), (216, 246, 1), (248, 591, 1), (768, 893, 1), (895, 902, 1), (904, 1023, 1), (1024, 1327, 1), (1488, 1514, 1), (12353, 12543, 1), (13312, 40959, 1), (44032, 55203, 1), (131072, 262141, 1)]
def widthSpans : List Span := [(0, 8, 2), (10, 31, 2), (127, 127, 2), (768, 879, 0), (1155, 1161, 0), (1425, 1469, 0), (4352, 4447, 2), (8203, 8207, 0), (8400, 8447, 0), (11904, 12350, 2), (12353, 42191, 2), (44032, 55203, 2), (63744, 64255, 2), (65024, 65039, 0), (65056, 65071, 0), (65072, 65135, 2), (65280, 65376, 2), (65504, 65510, 2), (127744, 128591, 2), (129280, 129535, 2), (131072, 262141, 2)]
/-- The cells of spans. -/
def cellsOf (l : List Span) : List Value := l.flatMap fun s => [.int .i64 s.1, .int .i64 s.2.1, .int .i64 s.2.2]

theorem cellsOf_at : ∀ (l : List Span) (i : Nat), i < l.length → (cellsOf l)[i * 3]? = some (.int .i64 (l.getD i (0, 0, 0)).1) ∧ (cellsOf l)[i * 3 + 1]? = some (.int .i64 (l.getD i (0, 0, 0)).2.1) ∧ (cellsOf l)[i * 3 + 2]? = some (.int .i64 (l.getD i (0, 0, 0)).2.2)
  | [], i, h => absurd h (by simp)
  | s :: r, 0, _ => ⟨rfl, rfl, rfl⟩
  | s :: r, i + 1, h => by
    have ih := cellsOf_at r i (by simpa using h)
    have e : cellsOf (s :: r) = [.int .i64 s.1, .int .i64 s.2.1, .int .i64 s.2.2] ++ cellsOf r := rfl
    rw [e]
    refine ⟨?_, ?_, ?_⟩
    · rw [List.getElem?_append_right (by simp; omega), show (i + 1) * 3 - [Value.int .i64 s.1, .int .i64 s.2.1, .int .i64 s.2.2].length = i * 3 by simp; omega]; exact ih.1
    · rw [List.getElem?_append_right (by simp; omega), show (i + 1) * 3 + 1 - [Value.int .i64 s.1, .int .i64 s.2.1, .int .i64 s.2.2].length = i * 3 + 1 by simp; omega]; exact ih.2.1
    · rw [List.getElem?_append_right (by simp; omega), show (i + 1) * 3 + 2 - [Value.int .i64 s.1, .int .i64 s.2.1, .int .i64 s.2.2].length = i * 3 + 2 by simp; omega]; exact ih.2.2

theorem spanRow_new (w : World) (l : List Span) (t : TypeId) : SpanRow (w.alloc (.cells (cellsOf l).toArray t)) w.heap.size l := by
  intro i hi
  obtain ⟨h1, h2, h3⟩ := cellsOf_at l i hi
  have h : ∀ j v, (cellsOf l)[j]? = some v → (w.alloc (.cells (cellsOf l).toArray t)).cell? ⟨w.heap.size, j, none⟩ = some v := by
    intro j v hv
    have hj : j < (cellsOf l).length := (List.getElem?_eq_some_iff.1 hv).1
    rw [World.cell?_alloc_at _ _ _ _ (by simp)]
    simpa using hv
  exact ⟨h _ _ h1, h _ _ h2, h _ _ h3⟩

/-- runes.find over a table that was laid last. -/
theorem table_any (l : List Span) (t : TypeId) (n : Nat) (c o : Int) (w : World) (hl : l.length = n) (ha : Rises l) (hn : n < 4611686018427387904) :
    Calls Tryz.prog 216 #[.slice (some ⟨w.heap.size, 0, none⟩) n n, .int .i64 c, .int .i64 o] (w.alloc (.cells (cellsOf l).toArray t)) fun e w' => e = .returned (.int .i64 (findR l c o)) ∧ Below w.heap.size w w' := by
  subst hl
  exact (find_any w.heap.size l.length l c o _ (spanRow_new w l t) (by simp) ha hn).mono fun e w' ⟨he, hb⟩ => ⟨he, ((Below.refl _ w).alloc (Nat.le_refl _) _).trans (hb.mono (by simp))⟩

theorem up_asc : Rises upSpans := by unfold Rises upSpans; decide
theorem down_asc : Rises downSpans := by unfold Rises downSpans; decide
theorem word_asc : Rises wordSpans := by unfold Rises wordSpans; decide
theorem width_asc : Rises widthSpans := by unfold Rises widthSpans; decide

def upZ (c : Int) : Int := c + findR upSpans c 0
def downZ (c : Int) : Int := c + findR downSpans c 0

theorem up_wf (c : Int) (h0 : -9223372036854775808 ≤ c) (h1 : c ≤ 9223372036854775807) : -9223372036854775808 ≤ upZ c ∧ upZ c ≤ 9223372036854775807 := by
  simp only [upZ, findR, upSpans]; omega
theorem down_wf (c : Int) (h0 : -9223372036854775808 ≤ c) (h1 : c ≤ 9223372036854775807) : -9223372036854775808 ≤ downZ c ∧ downZ c ≤ 9223372036854775807 := by
  simp only [downZ, findR, downSpans]; omega

set_option maxHeartbeats 400000 in
theorem down_any (c : Int) (w : World) (h0 : -9223372036854775808 ≤ c) (h1 : c ≤ 9223372036854775807) :
    Calls Tryz.prog 202 #[.int .i64 c] w fun e w' => e = .returned (.int .i64 (downZ c)) ∧ Below w.heap.size w w' := by
  have hF := table_any downSpans 216 7 c 0 w rfl down_asc (by omega)
  have hw := down_wf c h0 h1
  unfold downZ at hw ⊢
  have HF := Lib.hid hF
  clear hF
  generalize findR downSpans c 0 = r at *
  go_enter Tryz.func202, Tryz.ntmps202
  go_wp2_with (first
    | (refine wpList_buildTo rfl 216 _ rfl _ rfl (cellsOf downSpans).toArray (by kernel_rfl) ?_)
    | (refine wpList_store_new rfl 216 _ _ rfl rfl (cellsOf downSpans).toArray _ _ rfl rfl (by kernel_rfl) (by kernel_rfl) (by kernel_rfl) ?_)
    | (go_at_call 216; refine HF.out.mono ?_; rintro e w' ⟨rfl, hB⟩))
  go_ret
  exact ⟨rfl, hB⟩

/-- The fold of a character. -/
def foldZ (c : Int) : Int := downZ (upZ c)

end Go.Proofs.YtlibdhnlmekmhaaGreatDoor.Chars
end

/- The contracts of runes.Is, Word and Width. -/
section
namespace Go.Proofs.YtlibdhnlmekmhaaGreatDoor.Chars
set_option maxRecDepth 100000
open Go.RowKit Go.Shelf Go.Lib Go.Sort
open Go.Proofs.YtlibdhnlmekmhaaGreatDoor.Spans Go.Proofs.YtlibdhnlmekmhaaGreatDoor.CFind Go.Proofs.YtlibdhnlmekmhaaGreatDoor.Laws

/-- Whether an integer is a character. -/
def isZ (c : Int) : Bool := decide (0 ≤ c ∧ c ≤ 1114111 ∧ (c < 55296 ∨ 57343 < c))

set_option maxHeartbeats 400000 in
theorem is_any (c : Int) (w : World) :
    Calls Tryz.prog 213 #[.int .i64 c] w fun e w' => e = .returned (.bool (isZ c)) ∧ w = w' := by
  by_cases a0 : 0 ≤ c
  · by_cases a1 : c ≤ 1114111
    · by_cases a2 : c < 55296
      · have hz : isZ c = true := by simp [isZ]; omega
        rw [hz]
        clear hz
        go_enter Tryz.func213, Tryz.ntmps213
        go_wp2
        go_ret
        exact ⟨rfl, rfl⟩
      · by_cases a3 : 57343 < c
        · have hz : isZ c = true := by simp [isZ]; omega
          rw [hz]
          clear hz
          go_enter Tryz.func213, Tryz.ntmps213
          go_wp2
          go_ret
          exact ⟨rfl, rfl⟩
        · have hz : isZ c = false := by simp [isZ]; omega
          rw [hz]
          clear hz
          go_enter Tryz.func213, Tryz.ntmps213
          go_wp2
          go_ret
          exact ⟨rfl, rfl⟩
    · have hz : isZ c = false := by simp [isZ]; omega
      rw [hz]
      clear hz
      go_enter Tryz.func213, Tryz.ntmps213
      go_wp2
      go_ret
      exact ⟨rfl, rfl⟩
  · have hz : isZ c = false := by simp [isZ]; omega
    rw [hz]
    clear hz
    go_enter Tryz.func213, Tryz.ntmps213
    go_wp2
    go_ret
    exact ⟨rfl, rfl⟩

/-- Whether a character is a word character. -/
def wordZ (c : Int) : Bool := findR wordSpans c 0 == 1
/-- The width of an integer. -/
def widthZ (c : Int) : Int := if isZ c = true then findR widthSpans c 1 else 0

end Go.Proofs.YtlibdhnlmekmhaaGreatDoor.Chars
end

/- Plain mathematics of case, width and word characters. -/
section
namespace Go.Proofs.YtlibdhnlmekmhaaGreatDoor.Chars
set_option maxRecDepth 100000
open Go.Proofs.YtlibdhnlmekmhaaGreatDoor.Spans

theorem up_cases (c : Int) : (97 ≤ c ∧ c ≤ 122 ∧ upZ c = c - 32) ∨ (224 ≤ c ∧ c ≤ 246 ∧ upZ c = c - 32) ∨ (248 ≤ c ∧ c ≤ 254 ∧ upZ c = c - 32) ∨ (945 ≤ c ∧ c ≤ 961 ∧ upZ c = c - 32) ∨ (c = 962 ∧ upZ c = 931) ∨ (963 ≤ c ∧ c ≤ 969 ∧ upZ c = c - 32) ∨
    (1072 ≤ c ∧ c ≤ 1103 ∧ upZ c = c - 32) ∨ (1104 ≤ c ∧ c ≤ 1119 ∧ upZ c = c - 80) ∨
    ((c < 97 ∨ 122 < c) ∧ (c < 224 ∨ 246 < c) ∧ (c < 248 ∨ 254 < c) ∧ (c < 945 ∨ 969 < c) ∧ (c < 1072 ∨ 1119 < c) ∧ upZ c = c) := by
  simp only [upZ, findR, upSpans]; omega
theorem down_cases (c : Int) : (65 ≤ c ∧ c ≤ 90 ∧ downZ c = c + 32) ∨ (192 ≤ c ∧ c ≤ 214 ∧ downZ c = c + 32) ∨ (216 ≤ c ∧ c ≤ 222 ∧ downZ c = c + 32) ∨ (913 ≤ c ∧ c ≤ 929 ∧ downZ c = c + 32) ∨ (931 ≤ c ∧ c ≤ 937 ∧ downZ c = c + 32) ∨
    (1024 ≤ c ∧ c ≤ 1039 ∧ downZ c = c + 80) ∨ (1040 ≤ c ∧ c ≤ 1071 ∧ downZ c = c + 32) ∨
    ((c < 65 ∨ 90 < c) ∧ (c < 192 ∨ 214 < c) ∧ (c < 216 ∨ 222 < c) ∧ (c < 913 ∨ 929 < c) ∧ (c < 931 ∨ 937 < c) ∧ (c < 1024 ∨ 1071 < c) ∧ downZ c = c) := by
  simp only [downZ, findR, downSpans]; omega

theorem up_up (c : Int) : upZ (upZ c) = upZ c := by
  have h := up_cases (upZ c)
  rcases up_cases c with h1 | h1 | h1 | h1 | h1 | h1 | h1 | h1 | h1 <;> omega
theorem down_down (c : Int) : downZ (downZ c) = downZ c := by
  have h := down_cases (downZ c)
  rcases down_cases c with h1 | h1 | h1 | h1 | h1 | h1 | h1 | h1 <;> omega
theorem fold_up (c : Int) : foldZ (upZ c) = foldZ c := by unfold foldZ; rw [up_up]
theorem up_down (c : Int) : downZ (upZ (downZ c)) = downZ (upZ c) := by
  have h2 := up_cases (downZ c)
  have h3 := up_cases c
  rcases down_cases c with h1 | h1 | h1 | h1 | h1 | h1 | h1 | h1
  · have : upZ (downZ c) = c := by omega
    have : upZ c = c := by omega
    simp_all
  · have : upZ (downZ c) = c := by omega
    have : upZ c = c := by omega
    simp_all
  · have : upZ (downZ c) = c := by omega
    have : upZ c = c := by omega
    simp_all
  · have : upZ (downZ c) = c := by omega
    have : upZ c = c := by omega
    simp_all
  · have : upZ (downZ c) = c := by omega
    have : upZ c = c := by omega
    simp_all
  · have : upZ (downZ c) = c := by omega
    have : upZ c = c := by omega
    simp_all
  · have : upZ (downZ c) = c := by omega
    have : upZ c = c := by omega
    simp_all
  · have : downZ c = c := by omega
    rw [this]
theorem fold_down (c : Int) : foldZ (downZ c) = foldZ c := up_down c
theorem fold_fold (c : Int) : foldZ (foldZ c) = foldZ c := by
  have h := fold_down (upZ c)
  rw [fold_up] at h
  exact h

theorem isZ_iff (c : Int) : isZ c = true ↔ (0 ≤ c ∧ c ≤ 1114111 ∧ (c < 55296 ∨ 57343 < c)) := by simp [isZ]
theorem isZ_no (c : Int) (h : isZ c = false) : c < 0 ∨ 1114111 < c ∨ (55296 ≤ c ∧ c ≤ 57343) := by
  have h' : ¬ isZ c = true := by simp [h]
  rw [isZ_iff] at h'
  omega
theorem up_is (c : Int) (h : isZ c = true) : isZ (upZ c) = true := by
  rw [isZ_iff] at h ⊢
  rcases up_cases c with h1 | h1 | h1 | h1 | h1 | h1 | h1 | h1 | h1 <;> omega
theorem down_is (c : Int) (h : isZ c = true) : isZ (downZ c) = true := by
  rw [isZ_iff] at h ⊢
  rcases down_cases c with h1 | h1 | h1 | h1 | h1 | h1 | h1 | h1 <;> omega
theorem up_no (c : Int) (h : isZ c = false) : upZ c = c := by
  have h' := isZ_no c h
  rcases up_cases c with h1 | h1 | h1 | h1 | h1 | h1 | h1 | h1 | h1 <;> omega
theorem down_no (c : Int) (h : isZ c = false) : downZ c = c := by
  have h' := isZ_no c h
  rcases down_cases c with h1 | h1 | h1 | h1 | h1 | h1 | h1 | h1 <;> omega
theorem fold_no (c : Int) (h : isZ c = false) : foldZ c = c := by unfold foldZ; rw [up_no c h, down_no c h]
theorem width_no (c : Int) (h : isZ c = false) : widthZ c = 0 := by simp [widthZ, h]
theorem word_iff (c : Int) : wordZ c = true ↔ (48 ≤ c ∧ c ≤ 57) ∨ (65 ≤ c ∧ c ≤ 90) ∨ (97 ≤ c ∧ c ≤ 122) ∨ c = 170 ∨ c = 181 ∨ c = 186 ∨ (192 ≤ c ∧ c ≤ 214) ∨ (216 ≤ c ∧ c ≤ 246) ∨ (248 ≤ c ∧ c ≤ 591) ∨ (768 ≤ c ∧ c ≤ 893) ∨ (895 ≤ c ∧ c ≤ 902) ∨
    (904 ≤ c ∧ c ≤ 1023) ∨ (1024 ≤ c ∧ c ≤ 1327) ∨ (1488 ≤ c ∧ c ≤ 1514) ∨ (12353 ≤ c ∧ c ≤ 12543) ∨ (13312 ≤ c ∧ c ≤ 40959) ∨ (44032 ≤ c ∧ c ≤ 55203) ∨ (131072 ≤ c ∧ c ≤ 262141) := by
  simp only [wordZ, findR, wordSpans, beq_iff_eq]; omega
theorem word_no (c : Int) (h : isZ c = false) : wordZ c = false := by
  have h' := isZ_no c h
  rw [Bool.eq_false_iff]
  intro hw
  rw [word_iff] at hw
  omega
theorem word_case (c d : Int) (hc : (65 ≤ c ∧ c ≤ 90) ∨ (97 ≤ c ∧ c ≤ 122) ∨ (192 ≤ c ∧ c ≤ 214) ∨ (216 ≤ c ∧ c ≤ 246) ∨ (248 ≤ c ∧ c ≤ 254) ∨ (913 ≤ c ∧ c ≤ 1119)) (hd : (65 ≤ d ∧ d ≤ 90) ∨ (97 ≤ d ∧ d ≤ 122) ∨ (192 ≤ d ∧ d ≤ 214) ∨ (216 ≤ d ∧ d ≤ 246) ∨ (248 ≤ d ∧ d ≤ 254) ∨ (913 ≤ d ∧ d ≤ 1119)) : wordZ d = wordZ c := by
  have h1 : wordZ c = true := by rw [word_iff]; omega
  have h2 : wordZ d = true := by rw [word_iff]; omega
  rw [h1, h2]
theorem up_word (c : Int) : wordZ (upZ c) = wordZ c := by
  rcases up_cases c with h1 | h1 | h1 | h1 | h1 | h1 | h1 | h1 | h1
  all_goals first | (have h : upZ c = c := by omega); rw [h] | exact word_case c (upZ c) (by omega) (by omega)
theorem down_word (c : Int) : wordZ (downZ c) = wordZ c := by
  rcases down_cases c with h1 | h1 | h1 | h1 | h1 | h1 | h1 | h1
  all_goals first | (have h : downZ c = c := by omega); rw [h] | exact word_case c (downZ c) (by omega) (by omega)
theorem width_one (c : Int) (hc : (65 ≤ c ∧ c ≤ 90) ∨ (97 ≤ c ∧ c ≤ 122) ∨ (192 ≤ c ∧ c ≤ 254) ∨ (913 ≤ c ∧ c ≤ 1119)) : widthZ c = 1 := by
  have h : isZ c = true := by rw [isZ_iff]; omega
  rw [widthZ, if_pos h]
  simp only [findR, widthSpans]; omega
theorem up_width (c : Int) : widthZ (upZ c) = widthZ c := by
  rcases up_cases c with h1 | h1 | h1 | h1 | h1 | h1 | h1 | h1 | h1
  all_goals first | (have h : upZ c = c := by omega); rw [h] | (rw [width_one c (by omega), width_one (upZ c) (by omega)])
theorem down_width (c : Int) : widthZ (downZ c) = widthZ c := by
  rcases down_cases c with h1 | h1 | h1 | h1 | h1 | h1 | h1 | h1
  all_goals first | (have h : downZ c = c := by omega); rw [h] | (rw [width_one c (by omega), width_one (downZ c) (by omega)])
theorem width_range (c : Int) : 0 ≤ widthZ c ∧ widthZ c ≤ 2 := by
  unfold widthZ
  split
  · simp only [findR, widthSpans]; omega
  · omega
end Go.Proofs.YtlibdhnlmekmhaaGreatDoor.Chars
end

/- Plain mathematics of UTF-8: valid strings are the encodings of lists of characters, and the only ones. -/
section
namespace Go.Proofs.YtlibdhnlmekmhaaGreatDoor.Utf
open Go.Lib

/-- The number of a byte that was made of a number. -/
theorem byte_num (x : Int) (_ : 0 ≤ x) (h1 : x < 256) : (x.toNat.toUInt8).toNat = x.toNat := by
  simp; omega

/-- Decoding an encoded character gives it back, whatever follows. -/
theorem decode_encode (c : Int) (hc : isC c) (rest : List UInt8) : decodeL (encodeRune c ++ rest) = (c.toNat, (encodeRune c).length) := by
  obtain ⟨h0, h1, h2⟩ := hc
  rw [decodeL_N]
  by_cases a : c ≤ 127
  · have e : encodeRune c = [c.toNat.toUInt8] := by simp [encodeRune, encodeRuneZ_one h0 a]
    rw [e]
    have b0 := byte_num c h0 (by omega)
    simp only [List.cons_append, List.nil_append, List.getD_cons_zero, b0]
    rw [decodeN_ascii _ _ _ _ _ (by omega)]
    rfl
  · by_cases b : c ≤ 2047
    · have e : encodeRune c = [(192 + c / 64).toNat.toUInt8, (128 + c % 64).toNat.toUInt8] := by simp [encodeRune, encodeRuneZ_two (by omega : 128 ≤ c) b]
      rw [e]
      have b0 := byte_num (192 + c / 64) (by omega) (by omega)
      have b1 := byte_num (128 + c % 64) (by omega) (by omega)
      simp only [List.cons_append, List.nil_append, List.getD_cons_zero, List.getD_cons_succ, b0, b1, List.length_cons, List.length_nil]
      generalize (rest.getD 0 0).toNat = r0
      generalize (rest.getD 1 0).toNat = r1
      unfold decodeN
      rw [if_neg (by omega), if_pos (by omega), if_pos (by omega)]
      simp; omega
    · by_cases d : c ≤ 65535
      · have e : encodeRune c = [(224 + c / 4096).toNat.toUInt8, (128 + c / 64 % 64).toNat.toUInt8, (128 + c % 64).toNat.toUInt8] := by simp [encodeRune, encodeRuneZ_three (r := c) (by omega)]
        rw [e]
        have b0 := byte_num (224 + c / 4096) (by omega) (by omega)
        have b1 := byte_num (128 + c / 64 % 64) (by omega) (by omega)
        have b2 := byte_num (128 + c % 64) (by omega) (by omega)
        simp only [List.cons_append, List.nil_append, List.getD_cons_zero, List.getD_cons_succ, b0, b1, b2, List.length_cons, List.length_nil]
        generalize (rest.getD 0 0).toNat = r0
        unfold decodeN
        rw [if_neg (by omega), if_neg (by omega), if_pos (by omega), if_pos (by omega)]
        simp; omega
      · have e : encodeRune c = [(240 + c / 262144).toNat.toUInt8, (128 + c / 4096 % 64).toNat.toUInt8, (128 + c / 64 % 64).toNat.toUInt8, (128 + c % 64).toNat.toUInt8] := by simp [encodeRune, encodeRuneZ_four (by omega : 65536 ≤ c) h1]
        rw [e]
        have b0 := byte_num (240 + c / 262144) (by omega) (by omega)
        have b1 := byte_num (128 + c / 4096 % 64) (by omega) (by omega)
        have b2 := byte_num (128 + c / 64 % 64) (by omega) (by omega)
        have b3 := byte_num (128 + c % 64) (by omega) (by omega)
        simp only [List.cons_append, List.nil_append, List.getD_cons_zero, List.getD_cons_succ, b0, b1, b2, b3, List.length_cons, List.length_nil]
        unfold decodeN
        rw [if_neg (by omega), if_neg (by omega), if_neg (by omega), if_pos (by omega), if_pos (by omega)]
        simp; omega

theorem encode_length (c : Int) : 1 ≤ (encodeRune c).length ∧ (encodeRune c).length ≤ 4 := by
  have h := runeCells_le c
  rwa [runeCells_length] at h
theorem encode_ne (c : Int) (rest : List UInt8) : encodeRune c ++ rest ≠ [] := by
  intro h
  have h1 := congrArg List.length h
  have h2 := (encode_length c).1
  rw [List.length_append, List.length_nil] at h1
  omega

/-- The encoding of a list of characters. -/
def enc (R : List Int) : List UInt8 := R.flatMap encodeRune
theorem enc_cons (c : Int) (R : List Int) : enc (c :: R) = encodeRune c ++ enc R := rfl
theorem enc_append (R S : List Int) : enc (R ++ S) = enc R ++ enc S := by simp [enc]

theorem step_ok (c : Int) (hc : isC c) (rest : List UInt8) : ¬ ((decodeL (encodeRune c ++ rest)).1 = 65533 ∧ (decodeL (encodeRune c ++ rest)).2 = 1) := by
  rw [decode_encode c hc]
  rintro ⟨h1, h2⟩
  simp only at h1 h2
  have hz : c = 65533 := by have := hc.1; omega
  subst hz
  revert h2
  decide

theorem valid_enc : ∀ (R : List Int) (rest : List UInt8), (∀ c ∈ R, isC c) → validD (enc R ++ rest) = validD rest
  | [], rest, _ => rfl
  | c :: R, rest, h => by
    have hc := h c (by simp)
    rw [enc_cons, List.append_assoc, validD_step _ (encode_ne c _), if_neg (step_ok c hc _), decode_encode c hc]
    simp only [List.drop_left]
    exact valid_enc R rest (fun x hx => h x (by simp [hx]))
theorem runes_enc : ∀ (R : List Int) (rest : List UInt8), (∀ c ∈ R, isC c) → runes (enc R ++ rest) = R ++ runes rest
  | [], rest, _ => rfl
  | c :: R, rest, h => by
    have hc := h c (by simp)
    rw [enc_cons, List.append_assoc, runes_step _ (encode_ne c _), decode_encode c hc]
    simp only [List.drop_left, List.cons_append]
    rw [runes_enc R rest (fun x hx => h x (by simp [hx]))]
    congr 1
    have := hc.1
    omega

/-- A valid step decodes a character. -/
theorem step_isC (l : List UInt8) (_ : l ≠ []) (hv : ¬ ((decodeL l).1 = 65533 ∧ (decodeL l).2 = 1)) : isC ((decodeL l).1 : Int) := by
  have k0 := (l.getD 0 0).toNat_lt
  have k1 := (l.getD 1 0).toNat_lt
  have k2 := (l.getD 2 0).toNat_lt
  have k3 := (l.getD 3 0).toNat_lt
  rw [decodeL_N] at hv ⊢
  generalize (l.getD 0 0).toNat = b0 at *
  generalize (l.getD 1 0).toNat = b1 at *
  generalize (l.getD 2 0).toNat = b2 at *
  generalize (l.getD 3 0).toNat = b3 at *
  unfold isC
  rcases decodeN_shape l.length b0 b1 b2 b3 with ⟨_, e⟩ | ⟨_, _, _, _, e⟩ | ⟨_, _, _, _, _, _, e⟩ | ⟨_, _, _, _, _, _, _, e⟩ | e
  · rw [e]; simp only; omega
  · rw [e]; simp only; omega
  · rw [e]; simp only; omega
  · rw [e]; simp only; omega
  · rw [e] at hv; exact absurd ⟨rfl, rfl⟩ hv

theorem valid_runes : ∀ (n : Nat) (l : List UInt8), l.length ≤ n → validD l = true → enc (runes l) = l ∧ ∀ c ∈ runes l, isC c
  | 0, l, h, _ => by
    have : l = [] := List.eq_nil_of_length_eq_zero (by omega)
    subst this
    exact ⟨rfl, fun c hc => by simp [runes_nil] at hc⟩
  | n + 1, l, h, hv => by
    by_cases hne : l = []
    · subst hne
      exact ⟨rfl, fun c hc => by simp [runes_nil] at hc⟩
    · rw [validD_step l hne] at hv
      by_cases hb : (decodeL l).1 = 65533 ∧ (decodeL l).2 = 1
      · rw [if_pos hb] at hv; cases hv
      · rw [if_neg hb] at hv
        have hw := decodeL_width l
        have hl : 0 < l.length := List.length_pos_iff.2 hne
        obtain ⟨i1, i2⟩ := valid_runes n (l.drop (decodeL l).2) (by rw [List.length_drop]; omega) hv
        refine ⟨?_, ?_⟩
        · rw [runes_step l hne, enc_cons, i1, encode_decode l hne hb, List.take_append_drop]
        · rw [runes_step l hne]
          intro c hc
          rcases List.mem_cons.1 hc with rfl | hc
          · exact step_isC l hne hb
          · exact i2 c hc
theorem enc_runes (l : List UInt8) (hv : validD l = true) : enc (runes l) = l := (valid_runes l.length l (Nat.le_refl _) hv).1
theorem isC_runes (l : List UInt8) (hv : validD l = true) : ∀ c ∈ runes l, isC c := (valid_runes l.length l (Nat.le_refl _) hv).2

theorem valid_enc_all (R : List Int) (h : ∀ c ∈ R, isC c) : validD (enc R) = true := by
  have := valid_enc R [] h
  rwa [List.append_nil] at this
theorem runes_enc_all (R : List Int) (h : ∀ c ∈ R, isC c) : runes (enc R) = R := by
  have := runes_enc R [] h
  rwa [List.append_nil, runes_nil, List.append_nil] at this

theorem valid_join (s t : List UInt8) (hs : validD s = true) : validD (s ++ t) = validD t := by
  have := valid_enc (runes s) t (isC_runes s hs)
  rwa [enc_runes s hs] at this
theorem runes_join (s t : List UInt8) (hs : validD s = true) : runes (s ++ t) = runes s ++ runes t := by
  have := runes_enc (runes s) t (isC_runes s hs)
  rwa [enc_runes s hs] at this

/-- The bytes of a character behind its first one are continuation bytes. -/
theorem encode_tail (c : Int) (hc : isC c) (k : Nat) (h0 : 0 < k) (hk : k < (encodeRune c).length) : ((encodeRune c).getD k 0).toNat / 64 = 2 := by
  obtain ⟨h0', h1, h2⟩ := hc
  by_cases a : c ≤ 127
  · have e : encodeRune c = [c.toNat.toUInt8] := by simp [encodeRune, encodeRuneZ_one h0' a]
    rw [e] at hk; simp at hk; omega
  · by_cases b : c ≤ 2047
    · have e : encodeRune c = [(192 + c / 64).toNat.toUInt8, (128 + c % 64).toNat.toUInt8] := by simp [encodeRune, encodeRuneZ_two (by omega : 128 ≤ c) b]
      have b1 := byte_num (128 + c % 64) (by omega) (by omega)
      rw [e] at hk ⊢
      simp at hk
      obtain rfl : k = 1 := by omega
      simp only [List.getD_cons_zero, List.getD_cons_succ, b1]; omega
    · by_cases d : c ≤ 65535
      · have e : encodeRune c = [(224 + c / 4096).toNat.toUInt8, (128 + c / 64 % 64).toNat.toUInt8, (128 + c % 64).toNat.toUInt8] := by simp [encodeRune, encodeRuneZ_three (r := c) (by omega)]
        have b1 := byte_num (128 + c / 64 % 64) (by omega) (by omega)
        have b2 := byte_num (128 + c % 64) (by omega) (by omega)
        rw [e] at hk ⊢
        simp at hk
        rcases (by omega : k = 1 ∨ k = 2) with rfl | rfl
        · simp only [List.getD_cons_zero, List.getD_cons_succ, b1]; omega
        · simp only [List.getD_cons_zero, List.getD_cons_succ, b2]; omega
      · have e : encodeRune c = [(240 + c / 262144).toNat.toUInt8, (128 + c / 4096 % 64).toNat.toUInt8, (128 + c / 64 % 64).toNat.toUInt8, (128 + c % 64).toNat.toUInt8] := by simp [encodeRune, encodeRuneZ_four (by omega : 65536 ≤ c) h1]
        have b1 := byte_num (128 + c / 4096 % 64) (by omega) (by omega)
        have b2 := byte_num (128 + c / 64 % 64) (by omega) (by omega)
        have b3 := byte_num (128 + c % 64) (by omega) (by omega)
        rw [e] at hk ⊢
        simp at hk
        rcases (by omega : k = 1 ∨ k = 2 ∨ k = 3) with rfl | rfl | rfl
        · simp only [List.getD_cons_zero, List.getD_cons_succ, b1]; omega
        · simp only [List.getD_cons_zero, List.getD_cons_succ, b2]; omega
        · simp only [List.getD_cons_zero, List.getD_cons_succ, b3]; omega

/-- No valid string begins with a continuation byte. -/
theorem valid_head (t : List UInt8) (hne : t ≠ []) (hv : validD t = true) : (t.getD 0 0).toNat / 64 ≠ 2 := by
  intro h
  rw [validD_step t hne, decodeL_N, decodeN_cont _ _ _ _ _ h] at hv
  simp at hv

/-- If the second part and the whole are valid, so is the first part. -/
theorem valid_first : ∀ (R : List Int) (s t : List UInt8), (∀ c ∈ R, isC c) → enc R = s ++ t → validD t = true → validD s = true
  | [], s, t, _, he, _ => by
    have : s = [] := by
      have h1 := congrArg List.length he
      rw [List.length_append] at h1
      exact List.eq_nil_of_length_eq_zero (by simp [enc] at h1; omega)
    subst this
    rfl
  | c :: R, s, t, h, he, ht => by
    by_cases hs : s = []
    · subst hs; rfl
    · have hc := h c (by simp)
      rw [enc_cons] at he
      by_cases hl : (encodeRune c).length ≤ s.length
      · have hp : encodeRune c = s.take (encodeRune c).length := by
          have := congrArg (List.take (encodeRune c).length) he
          rwa [List.take_left, List.take_append_of_le_length hl] at this
        have hd : enc R = s.drop (encodeRune c).length ++ t := by
          have := congrArg (List.drop (encodeRune c).length) he
          rwa [List.drop_left, List.drop_append_of_le_length hl] at this
        have ih := valid_first R (s.drop (encodeRune c).length) t (fun x hx => h x (by simp [hx])) hd ht
        have hs2 : s = enc [c] ++ s.drop (encodeRune c).length := by
          conv => lhs; rw [← List.take_append_drop (encodeRune c).length s, ← hp]
          simp [enc]
        rw [hs2, valid_enc [c] _ (by simpa using hc)]
        exact ih
      · exfalso
        have hpos : 0 < s.length := List.length_pos_iff.2 hs
        have hk := encode_tail c hc s.length hpos (by omega)
        have hne : t ≠ [] := by
          rintro rfl
          have := congrArg List.length he
          simp at this
          omega
        have h1 : (encodeRune c).getD s.length 0 = t.getD 0 0 := by
          have e1 : (encodeRune c ++ enc R)[s.length]? = (s ++ t)[s.length]? := by rw [he]
          rw [List.getElem?_append_left (by omega), List.getElem?_append_right (Nat.le_refl _), Nat.sub_self] at e1
          simp only [List.getD_eq_getElem?_getD, e1]
        rw [h1] at hk
        exact valid_head t hne ht hk
theorem valid_left (s t : List UInt8) (hst : validD (s ++ t) = true) (ht : validD t = true) : validD s = true :=
  valid_first (runes (s ++ t)) s t (isC_runes _ hst) (enc_runes _ hst) ht

/-- The string of a list of bytes. -/
def strOf (l : List UInt8) : ByteArray := ⟨l.toArray⟩
theorem strOf_list (l : List UInt8) : (strOf l).data.toList = l := by simp [strOf]
theorem strOf_eq {s : ByteArray} {l : List UInt8} (h : s.data.toList = l) : s = strOf l := by
  subst h
  cases s
  simp [strOf]
end Go.Proofs.YtlibdhnlmekmhaaGreatDoor.Utf
end
