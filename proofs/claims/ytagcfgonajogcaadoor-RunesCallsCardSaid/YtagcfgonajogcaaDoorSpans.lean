/- Plain mathematics of tables of spans: the value that a binary search over ascending spans finds is the value that a walk from the first span on finds. -/
namespace Go.Proofs.YtagcfgonajogcaaDoor.Spans

/-- A span: its first and last character and its value. -/
abbrev Span := Int × Int × Int

/-- What a walk from the first span on finds. -/
def findR : List Span → Int → Int → Int
  | [], _, o => o
  | s :: r, c, o => if c ≤ s.2.1 then (if s.1 ≤ c then s.2.2 else o) else findR r c o

/-- The spans ascend. -/
def Rises (l : List Span) : Prop := l.Pairwise fun a b => a.2.1 ≤ b.2.1

/-- How many spans end before a character. -/
def ends (l : List Span) (c : Int) : Nat := l.countP fun s => !decide (c ≤ s.2.1)

theorem ends_le (l : List Span) (c : Int) : ends l c ≤ l.length := List.countP_le_length

theorem ends_zero {l : List Span} {c : Int} (h : ∀ s ∈ l, c ≤ s.2.1) : ends l c = 0 := by
  unfold ends
  rw [List.countP_eq_zero]
  intro s hs
  simp [h s hs]

theorem findR_yes : ∀ (l : List Span) (c o : Int), Rises l → (h : ends l c < l.length) → (l[ends l c]'h).1 ≤ c → findR l c o = (l[ends l c]'h).2.2
  | [], _, _, _, h, _ => absurd h (by simp)
  | s :: r, c, o, ha, h, hf => by
    obtain ⟨h1, h2⟩ := List.pairwise_cons.1 ha
    by_cases hc : c ≤ s.2.1
    · have he : ends (s :: r) c = 0 := ends_zero (fun t ht => by
        rcases List.mem_cons.1 ht with rfl | ht
        · exact hc
        · exact Int.le_trans hc (h1 t ht))
      simp only [he, List.getElem_cons_zero] at hf ⊢
      rw [findR, if_pos hc, if_pos hf]
    · have he : ends (s :: r) c = ends r c + 1 := by simp [ends, hc]
      simp only [he, List.getElem_cons_succ] at hf ⊢
      rw [findR, if_neg hc]
      exact findR_yes r c o h2 (by rw [he] at h; simpa using h) hf

theorem findR_no : ∀ (l : List Span) (c o : Int), Rises l → (∀ h : ends l c < l.length, ¬ (l[ends l c]'h).1 ≤ c) → findR l c o = o
  | [], _, _, _, _ => rfl
  | s :: r, c, o, ha, hf => by
    obtain ⟨h1, h2⟩ := List.pairwise_cons.1 ha
    by_cases hc : c ≤ s.2.1
    · have he : ends (s :: r) c = 0 := ends_zero (fun t ht => by
        rcases List.mem_cons.1 ht with rfl | ht
        · exact hc
        · exact Int.le_trans hc (h1 t ht))
      simp only [he, List.getElem_cons_zero] at hf
      rw [findR, if_pos hc, if_neg (hf (by simp))]
    · have he : ends (s :: r) c = ends r c + 1 := by simp [ends, hc]
      simp only [he, List.getElem_cons_succ] at hf
      rw [findR, if_neg hc]
      exact findR_no r c o h2 (fun h => hf (by simpa using h))

/-- Counting over the places is counting over the spans. -/
theorem countP_places (l : List Span) (f : Span → Bool) : (List.range l.length).countP (fun i => f (l.getD i (0, 0, 0))) = l.countP f := by
  have h : l = (List.range l.length).map (fun i => l.getD i (0, 0, 0)) := by
    apply List.ext_getElem
    · simp
    · intro i h1 h2
      simp [List.getElem?_eq_getElem h1]
  conv => rhs; rw [h, List.countP_map]
  rfl

theorem getD_mono {l : List Span} (h : Rises l) (a b : Nat) (hab : a ≤ b) (hb : b < l.length) : (l.getD a (0, 0, 0)).2.1 ≤ (l.getD b (0, 0, 0)).2.1 := by
  rcases Nat.lt_or_eq_of_le hab with hlt | rfl
  · have := List.pairwise_iff_getElem.1 h a b (by omega) hb hlt
    simpa [List.getD, List.getElem?_eq_getElem hb, List.getElem?_eq_getElem (show a < l.length by omega)] using this
  · exact Int.le_refl _

end Go.Proofs.YtagcfgonajogcaaDoor.Spans
