/- Plain mathematics of tables of spans: the value that a binary search over ascending spans finds is the value that a walk from the first span on finds. | Small laws on worlds and operations that the walks of this seat use. -/
import Derived.WalkKit
import Derived.Laws.Tables
import Derived.Great.BuildSlice
import Derived.Maps.AppendAt
import Derived.OwnWalk
/- Plain mathematics of tables of spans: the value that a binary search over ascending spans finds is the value that a walk from the first span on finds. -/
section
namespace Go.Proofs.YtlibdhnlmekmhaaGreatDoor.Spans

/-- A span: its first and last character and its value. -/
abbrev Span := Int × Int × Int

/-- What a walk from the first span on finds. -/
def findR : List Span → Int → Int → Int
  | [], _, o => o
  | s :: r, c, o => if c ≤ s.2.1 then (if s.1 ≤ c then s.2.2 else o) else findR r c o

/-- The spans ascend. -/
def Rises (l : List Span) : Prop := l.Pairwise fun a b => a.2.1 ≤ b.2.1

/-- How many spans end before a character. -/
def ends (l : List Span) (c : Int) : Nat := l.countP fun s => !decide (c ≤ s.2.1)

theorem ends_le (l : List Span) (c : Int) : ends l c ≤ l.length := List.countP_le_length

theorem ends_zero {l : List Span} {c : Int} (h : ∀ s ∈ l, c ≤ s.2.1) : ends l c = 0 := by
  unfold ends
  rw [List.countP_eq_zero]
  intro s hs
  simp [h s hs]

theorem findR_yes : ∀ (l : List Span) (c o : Int), Rises l → (h : ends l c < l.length) → (l[ends l c]'h).1 ≤ c → findR l c o = (l[ends l c]'h).2.2
  | [], _, _, _, h, _ => absurd h (by simp)
  | s :: r, c, o, ha, h, hf => by
    obtain ⟨h1, h2⟩ := List.pairwise_cons.1 ha
    by_cases hc : c ≤ s.2.1
    · have he : ends (s :: r) c = 0 := ends_zero (fun t ht => by
        rcases List.mem_cons.1 ht with rfl | ht
        · exact hc
        · exact Int.le_trans hc (h1 t ht))
      simp only [he, List.getElem_cons_zero] at hf ⊢
      rw [findR, if_pos hc, if_pos hf]
    · have he : ends (s :: r) c = ends r c + 1 := by simp [ends, hc]
      simp only [he, List.getElem_cons_succ] at hf ⊢
      rw [findR, if_neg hc]
      exact findR_yes r c o h2 (by rw [he] at h; simpa using h) hf

theorem findR_no : ∀ (l : List Span) (c o : Int), Rises l → (∀ h : ends l c < l.length, ¬ (l[ends l c]'h).1 ≤ c) → findR l c o = o
  | [], _, _, _, _ => rfl
  | s :: r, c, o, ha, hf => by
    obtain ⟨h1, h2⟩ := List.pairwise_cons.1 ha
    by_cases hc : c ≤ s.2.1
    · have he : ends (s :: r) c = 0 := ends_zero (fun t ht => by
        rcases List.mem_cons.1 ht with rfl | ht
        · exact hc
        · exact Int.le_trans hc (h1 t ht))
      simp only [he, List.getElem_cons_zero] at hf
      rw [findR, if_pos hc, if_neg (hf (by simp))]
    · have he : ends (s :: r) c = ends r c + 1 := by simp [ends, hc]
      simp only [he, List.getElem_cons_succ] at hf
      rw [findR, if_neg hc]
      exact findR_no r c o h2 (fun h => hf (by simpa using h))

/-- Counting over the places is counting over the spans. -/
theorem countP_places (l : List Span) (f : Span → Bool) : (List.range l.length).countP (fun i => f (l.getD i (0, 0, 0))) = l.countP f := by
  have h : l = (List.range l.length).map (fun i => l.getD i (0, 0, 0)) := by
    apply List.ext_getElem
    · simp
    · intro i h1 h2
      simp [List.getElem?_eq_getElem h1]
  conv => rhs; rw [h, List.countP_map]
  rfl

theorem getD_mono {l : List Span} (h : Rises l) (a b : Nat) (hab : a ≤ b) (hb : b < l.length) : (l.getD a (0, 0, 0)).2.1 ≤ (l.getD b (0, 0, 0)).2.1 := by
  rcases Nat.lt_or_eq_of_le hab with hlt | rfl
  · have := List.pairwise_iff_getElem.1 h a b (by omega) hb hlt
    simpa [List.getD, List.getElem?_eq_getElem hb, List.getElem?_eq_getElem (show a < l.length by omega)] using this
  · exact Int.le_refl _

end Go.Proofs.YtlibdhnlmekmhaaGreatDoor.Spans
end

/- Small laws on worlds and operations that the walks of this seat use. -/
section
namespace Go.Proofs.YtlibdhnlmekmhaaGreatDoor.Laws
open Go.RowKit

theorem alloc_setRow (w : World) (old cells : Array Value) (t : TypeId) : (w.alloc (.cells old t)).setRow w.heap.size cells = w.alloc (.cells cells t) := by
  unfold World.setRow World.alloc
  congr 1
  apply Array.ext
  · simp
  · intro i h1 h2
    simp only [Array.getElem_modify, Array.getElem_push]
    split
    · rename_i h
      subst h
      simp
    · split
      · rfl
      · simp_all; omega

section
variable {P : Program}
/-- A whole array or struct stored into the block that was laid last. -/
theorem wpList_store_new {ops : Array Oper} {rest : List Oper} {o : Oper} {a : Act} {w : World} {Q : Exit → Act → World → Prop} (hgd : o.guard = none) (ty : TypeId) (x y : Operand) (ho : o.op = .store ty x y) (hdst : o.dst = none)
    (cells old : Array Value) (t : TypeId) (hx : a.eval x = .pointer (some ⟨w.heap.size, 0, none⟩)) (hy : a.eval y = .agg cells)
    (hi : (P.info? ty).map (·.size) = some cells.size) (hold : old.size = cells.size) (h1 : cells.all (·.oneCell') = true)
    (h : wpList P ops Q rest a (w.alloc (.cells cells t))) : wpList P ops Q (o :: rest) a (w.alloc (.cells old t)) := by
  refine wpList_store_row hgd ty x y ho w.heap.size cells hx hy t old (heap_alloc_new w _) hi hold h1 ?_
  rw [alloc_setRow, hdst]
  exact h

/-- append of a slice that lies in memory onto a row of the call's own, the operation guarded or not. -/
theorem wpList_append_at {ops : Array Oper} {rest : List Oper} {o : Oper} {a : Act} {w : World} {Q : Exit → Act → World → Prop} (hw : Region.wanted o (yielded ops a.tmps) = true) (s x : Operand) (t : TypeId)
    (ho : o.op = .call { callee := .builtin .append, args := #[s, x], argTypes := #[t, t] })
    (base : Nat) (e : TypeId) (i : TypeInfo) (z : Value) (size bytes : Nat) (ht : P.underlying t = some (.slice e)) (hi : P.info? e = some i) (hz : i.zero = some z)
    (hsize : i.size = size) (hby : i.bytes = bytes) (hzs : z.cells.size = size) (hsz : 0 < size)
    (v : Value) (n : Nat) (xs : List Value) (hs : a.eval s = v) (hown : w.ownsRow base e size v n xs)
    (ad : Addr) (m c : Nat) (news : List Value) (hx : a.eval x = .slice (some ad) m c) (hl : news.length = m * size) (hnews : ∀ j u, news[j]? = some u → w.cell? (ad.add j) = some u) (h1 : ∀ u ∈ news, u.oneCell' = true)
    (h63 : n + m ≤ maxLen) (hbytes : (n + m) * bytes ≤ 140737488355328) (hbase : base ≤ w.heap.size)
    (h : ∀ v' w', w'.ownsRow base e size v' (n + m) (xs ++ news) → w.grownBy w' v.ownBlock → wpList P ops Q rest (a.put o.dst v') w') : wpList P ops Q (o :: rest) a w := by
  obtain ⟨v', w', hrun, h2, h3, _⟩ := run_append_own_at (P := P) w base t o.type e i z size bytes ht hi hz hsize hby hzs hsz v n xs hown ad m c news hl hnews h1 h63 hbytes hbase
  unfold wpList
  rw [if_pos hw]
  left
  unfold Oper.wp execOp
  simp only [ho, resolve, invoke, builtin, Sem.run_bind, Sem.run_pure, Result.andThen_ok, List.map_toArray, List.map_cons, List.map_nil, hs, hx, hrun]
  exact h v' w' h2 h3
/-- An owned row stays in a world that has only grown. -/
theorem owns_below {w w' : World} {base : Nat} {e : TypeId} {size : Nat} {v : Value} {n : Nat} {xs : List Value} (h : w.ownsRow base e size v n xs) (hb : Below w.heap.size w w') : w'.ownsRow base e size v n xs := by
  refine ⟨h.1, ?_⟩
  rcases h.2 with h0 | ⟨g, cap, cur, hv, hbg, hg, rest⟩
  · exact .inl h0
  · exact .inr ⟨g, cap, cur, hv, hbg, (hb.block g (Array.getElem?_eq_some_iff.1 hg).1).trans hg, rest⟩
theorem owns_base {w : World} {base base' : Nat} {e : TypeId} {size : Nat} {v : Value} {n : Nat} {xs : List Value} (h : w.ownsRow base e size v n xs) (hb : base' ≤ base) : w.ownsRow base' e size v n xs := by
  refine ⟨h.1, ?_⟩
  rcases h.2 with h0 | ⟨g, cap, cur, hv, hbg, rest⟩
  · exact .inl h0
  · exact .inr ⟨g, cap, cur, hv, by omega, rest⟩
end
end Go.Proofs.YtlibdhnlmekmhaaGreatDoor.Laws
end
