/- Plain mathematics of tables of spans: the value that a binary search over ascending spans finds is the value that a walk from the first span on finds. | The contracts of runes.find and its closure. | Small laws on worlds and operations that the walks of this seat use. | The contracts of runes.Up, Down and Fold, each by its table of spans. -/
import Derived.Test.YtlibdhnlmekmhaaGreatDoorRows
import Derived.WalkKit
import Derived.WalkSpells
import Derived.WalkLawsBesides
import Derived.RegionTactic
import Derived.BigQuiet
import Derived.Deep.QuietTactic
import Derived.Shelf.SlSorted.Search
import Derived.Lib.Hide
import Derived.Laws.Tables
import Derived.Great.BuildSlice
import Derived.Maps.AppendAt
import Derived.OwnWalk
import Derived.Test.YtlibdhnlmekmhaaGreatDoorMgNames03
/- Plain mathematics of tables of spans: the value that a binary search over ascending spans finds is the value that a walk from the first span on finds. -/
section
namespace Go.Proofs.YtlibdhnlmekmhaaGreatDoor.Spans

/-- A span: its first and last character and its value. -/
abbrev Span := Int × Int × Int

/-- What a walk from the first span on finds. -/
def findR : List Span → Int → Int → Int
  | [], _, o => o
  | s :: r, c, o => if c ≤ s.2.1 then (if s.1 ≤ c then s.2.2 else o) else findR r c o

/-- The spans ascend. -/
def Rises (l : List Span) : Prop := l.Pairwise fun a b => a.2.1 ≤ b.2.1

/-- How many spans end before a character. -/
def ends (l : List Span) (c : Int) : Nat := l.countP fun s => !decide (c ≤ s.2.1)

theorem ends_le (l : List Span) (c : Int) : ends l c ≤ l.length := List.countP_le_length

theorem ends_zero {l : List Span} {c : Int} (h : ∀ s ∈ l, c ≤ s.2.1) : ends l c = 0 := by
  unfold ends
  rw [List.countP_eq_zero]
  intro s hs
  simp [h s hs]

theorem findR_yes : ∀ (l : List Span) (c o : Int), Rises l → (h : ends l c < l.length) → (l[ends l c]'h).1 ≤ c → findR l c o = (l[ends l c]'h).2.2
  | [], _, _, _, h, _ => absurd h (by simp)
  | s :: r, c, o, ha, h, hf => by
    obtain ⟨h1, h2⟩ := List.pairwise_cons.1 ha
    by_cases hc : c ≤ s.2.1
    · have he : ends (s :: r) c = 0 := ends_zero (fun t ht => by
        rcases List.mem_cons.1 ht with rfl | ht
        · exact hc
        · exact Int.le_trans hc (h1 t ht))
      simp only [he, List.getElem_cons_zero] at hf ⊢
      rw [findR, if_pos hc, if_pos hf]
    · have he : ends (s :: r) c = ends r c + 1 := by simp [ends, hc]
      simp only [he, List.getElem_cons_succ] at hf ⊢
      rw [findR, if_neg hc]
      exact findR_yes r c o h2 (by rw [he] at h; simpa using h) hf

theorem findR_no : ∀ (l : List Span) (c o : Int), Rises l → (∀ h : ends l c < l.length, ¬ (l[ends l c]'h).1 ≤ c) → findR l c o = o
  | [], _, _, _, _ => rfl
  | s :: r, c, o, ha, hf => by
    obtain ⟨h1, h2⟩ := List.pairwise_cons.1 ha
    by_cases hc : c ≤ s.2.1
    · have he : ends (s :: r) c = 0 := ends_zero (fun t ht => by
        rcases List.mem_cons.1 ht with rfl | ht
        · exact hc
        · exact Int.le_trans hc (h1 t ht))
      simp only [he, List.getElem_cons_zero] at hf
      rw [findR, if_pos hc, if_neg (hf (by simp))]
    · have he : ends (s :: r) c = ends r c + 1 := by simp [ends, hc]
      simp only [he, List.getElem_cons_succ] at hf
      rw [findR, if_neg hc]
      exact findR_no r c o h2 (fun h => hf (by simpa using h))

/-- Counting over the places is counting over the spans. -/
theorem countP_places (l : List Span) (f : Span → Bool) : (List.range l.length).countP (fun i => f (l.getD i (0, 0, 0))) = l.countP f := by
  have h : l = (List.range l.length).map (fun i => l.getD i (0, 0, 0)) := by
    apply List.ext_getElem
    · simp
    · intro i h1 h2
      simp [List.getElem?_eq_getElem h1]
  conv => rhs; rw [h, List.countP_map]
  rfl

theorem getD_mono {l : List Span} (h : Rises l) (a b : Nat) (hab : a ≤ b) (hb : b < l.length) : (l.getD a (0, 0, 0)).2.1 ≤ (l.getD b (0, 0, 0)).2.1 := by
  rcases Nat.lt_or_eq_of_le hab with hlt | rfl
  · have := List.pairwise_iff_getElem.1 h a b (by omega) hb hlt
    simpa [List.getD, List.getElem?_eq_getElem hb, List.getElem?_eq_getElem (show a < l.length by omega)] using this
  · exact Int.le_refl _

end Go.Proofs.YtlibdhnlmekmhaaGreatDoor.Spans
end

/- The contracts of runes.find and its closure. -/
section
namespace Go.Proofs.YtlibdhnlmekmhaaGreatDoor.CFind
set_option maxRecDepth 100000
open Go.RowKit Go.Shelf Go.Lib Go.Sort
open Go.Proofs.YtlibdhnlmekmhaaGreatDoor.Spans

/-- Spans that lie in a block, from its first cell on. -/
def SpanRow (w : World) (b : Nat) (l : List Span) : Prop := ∀ i, i < l.length →
  w.cell? ⟨b, i * 3, none⟩ = some (.int .i64 (l.getD i (0, 0, 0)).1) ∧ w.cell? ⟨b, i * 3 + 1, none⟩ = some (.int .i64 (l.getD i (0, 0, 0)).2.1) ∧ w.cell? ⟨b, i * 3 + 2, none⟩ = some (.int .i64 (l.getD i (0, 0, 0)).2.2)

set_option maxHeartbeats 400000 in
theorem closure (bc bs b n cap : Nat) (last : Int) (c : Int) (i : Nat) (W : World) (hi : i < n)
    (hs : W.cell? ⟨bs, 0, none⟩ = some (.slice (some ⟨b, 0, none⟩) n cap)) (hx : W.cell? ⟨bc, 0, none⟩ = some (.int .i64 c)) (hc : W.cell? ⟨b, i * 3 + 1, none⟩ = some (.int .i64 last)) :
    Calls Tryz.prog 233 (#[.int .i64 i] ++ #[.pointer (some ⟨bc, 0, none⟩), .pointer (some ⟨bs, 0, none⟩)]) W fun e w' => e = .returned (.bool (decide (c ≤ last))) ∧ ∃ q, w' = W.drewN q := by
  have hiz : (i : Int) < (n : Int) := by omega
  go_enter Tryz.func233, Tryz.ntmps233
  go_wp2
  go_region
  all_goals go_wp2
  all_goals go_ret
  all_goals exact ⟨by first | rfl | simp, 1, rfl⟩

theorem at_getD {l : List Span} {k : Nat} (h : k < l.length) : l.getD k (0, 0, 0) = l[k] := by simp [List.getD, List.getElem?_eq_getElem h]

set_option maxHeartbeats 1000000 in
/-- runes.find over ascending spans. -/
theorem find_any (b cap : Nat) (l : List Span) (c o : Int) (w : World) (hr : SpanRow w b l) (hb : b < w.heap.size) (ha : Rises l) (hn : l.length < 4611686018427387904) :
    Calls Tryz.prog 216 #[.slice (some ⟨b, 0, none⟩) l.length cap, .int .i64 c, .int .i64 o] w fun e w' => e = .returned (.int .i64 (findR l c o)) ∧ Below w.heap.size w w' := by
  obtain ⟨W0, hW0⟩ : ∃ W0, W0 = (w.alloc (.cells #[.slice (some ⟨b, 0, none⟩) l.length cap] 218)).alloc (.cells #[.int .i64 c] 3) := ⟨_, rfl⟩
  have hsize : W0.heap.size = w.heap.size + 1 + 1 := by rw [hW0]; simp
  have ca : W0.cell? ⟨w.heap.size, 0, none⟩ = some (.slice (some ⟨b, 0, none⟩) l.length cap) := by rw [hW0]; exact cell_alloc_sl _ (cell_new_sl w _ _)
  have cx : W0.cell? ⟨w.heap.size + 1, 0, none⟩ = some (.int .i64 c) := by rw [hW0]; have := cell_new_sl (w.alloc (.cells #[.slice (some ⟨b, 0, none⟩) l.length cap] 218)) (.int .i64 c) 3; rwa [World.size_alloc] at this
  have cc : SpanRow W0 b l := fun i hi => by
    obtain ⟨h1, h2, h3⟩ := hr i hi
    rw [hW0]
    exact ⟨cell_alloc_sl _ (cell_alloc_sl _ h1), cell_alloc_sl _ (cell_alloc_sl _ h2), cell_alloc_sl _ (cell_alloc_sl _ h3)⟩
  have eg : ∀ args w, (callFunc 233 args).run Tryz.prog w = .ok (.enter 233 args) w := enters_of Tryz.func233 (by kernel_rfl) rfl
  have hS := Any.sort_Search Tryz.laysSearch 233 #[.pointer (some ⟨w.heap.size + 1, 0, none⟩), .pointer (some ⟨w.heap.size, 0, none⟩)] l.length (fun i => decide (c ≤ (l.getD i (0, 0, 0)).2.1)) W0 eg hn
    (fun m os i hi => (closure (w.heap.size + 1) w.heap.size b l.length cap (l.getD i (0, 0, 0)).2.1 c i _ hi (cell_grown (by simp [hsize]; omega) ca m os) (cell_grown (by simp [hsize]) cx m os) (cell_grown (by simp [hsize]; omega) (cc i hi).2.1 m os)).mono
      fun _ _ ⟨he, q, hq⟩ => ⟨he, q, #[], by rw [hq, grow_empty]⟩) (fun x y hxy hy h => decide_eq_true (Int.le_trans (of_decide_eq_true h) (getD_mono ha x y hxy hy)))
  rw [countP_places l (fun s => !decide (c ≤ s.2.1)), show l.countP (fun s => !decide (c ≤ s.2.1)) = ends l c from rfl] at hS
  change Calls Tryz.prog 228 _ _ _ at hS
  have hk : ends l c ≤ l.length := ends_le l c
  have hB0 : Below w.heap.size w W0 := by rw [hW0]; exact ((Below.refl _ w).alloc (Nat.le_refl _) _).alloc (by simp) _
  have hyes : ∀ h : ends l c < l.length, (l.getD (ends l c) (0, 0, 0)).1 ≤ c → findR l c o = (l.getD (ends l c) (0, 0, 0)).2.2 := fun h hf => by rw [at_getD h] at hf ⊢; exact findR_yes l c o ha h hf
  have hno : (∀ h : ends l c < l.length, ¬ (l.getD (ends l c) (0, 0, 0)).1 ≤ c) → findR l c o = o := fun h => findR_no l c o ha (fun hl => by have := h hl; rwa [at_getD hl] at this)
  have hS2 := hS.mono (R' := fun e w' => e = .returned (.int .i64 (ends l c)) ∧ w'.cell? ⟨w.heap.size, 0, none⟩ = some (.slice (some ⟨b, 0, none⟩) l.length cap) ∧ w'.cell? ⟨w.heap.size + 1, 0, none⟩ = some (.int .i64 c) ∧ SpanRow w' b l ∧ Below w.heap.size w w')
    (fun e w' ⟨he, q, os, hq⟩ => by
      rw [hq]
      exact ⟨he, cell_grown (by simp [hsize]; omega) ca q os, cell_grown (by simp [hsize]) cx q os, fun i hi => ⟨cell_grown (by simp [hsize]; omega) (cc i hi).1 q os, cell_grown (by simp [hsize]; omega) (cc i hi).2.1 q os, cell_grown (by simp [hsize]; omega) (cc i hi).2.2 q os⟩, hB0.trans (below_grown_sl w.heap.size W0 q os (by omega))⟩)
  clear hS cc hB0 eg hr ha ca cx hsize
  subst hW0
  have HS := Lib.hid hS2
  have Hyes := Lib.hid hyes
  have Hno := Lib.hid hno
  clear hS2 hyes hno
  generalize findR l c o = ans at *
  generalize ends l c = k at *
  by_cases h1 : k < l.length
  · have h1z : (k : Int) < (l.length : Int) := by omega
    obtain ⟨f, hf⟩ : ∃ f, (l.getD k (0, 0, 0)).1 = f := ⟨_, rfl⟩
    obtain ⟨v, hv⟩ : ∃ v, (l.getD k (0, 0, 0)).2.2 = v := ⟨_, rfl⟩
    have HS3 := Lib.hid (HS.out.mono (R' := fun e w' => e = .returned (.int .i64 k) ∧ w'.cell? ⟨w.heap.size, 0, none⟩ = some (.slice (some ⟨b, 0, none⟩) l.length cap) ∧ w'.cell? ⟨w.heap.size + 1, 0, none⟩ = some (.int .i64 c) ∧ w'.cell? ⟨b, k * 3, none⟩ = some (.int .i64 f) ∧ w'.cell? ⟨b, k * 3 + 2, none⟩ = some (.int .i64 v) ∧ Below w.heap.size w w')
      (fun e w' ⟨g1, g2, g3, g4, g5⟩ => ⟨g1, g2, g3, by have := (g4 k h1).1; rwa [hf] at this, by have := (g4 k h1).2.2; rwa [hv] at this, g5⟩))
    have hy : f ≤ c → v = ans := fun h => by rw [← hv]; exact (Hyes.out h1 (by rw [hf]; exact h)).symm
    have hn' : ¬ f ≤ c → o = ans := fun h => (Hno.out (fun _ => by rw [hf]; exact h)).symm
    clear Hyes Hno HS hf hv
    generalize l.length = n at *
    by_cases h2 : f ≤ c
    · obtain rfl := hy h2
      have hd : decide (f ≤ c) = true := decide_eq_true h2
      clear hy hn'
      go_enter Tryz.func216, Tryz.ntmps216
      go_wp2_with (go_at_call 228; refine HS3.out.mono ?_; rintro e w1 ⟨rfl, d1, d2, d3, d4, hB⟩)
      go_quiet (fail)
      go_wp2
      go_ret
      exact ⟨rfl, below_drewNv hB _⟩
    · obtain rfl := hn' h2
      have hd : decide (f ≤ c) = false := decide_eq_false h2
      clear hy hn'
      go_enter Tryz.func216, Tryz.ntmps216
      go_wp2_with (go_at_call 228; refine HS3.out.mono ?_; rintro e w1 ⟨rfl, d1, d2, d3, d4, hB⟩)
      go_quiet (fail)
      go_wp2
      go_ret
      exact ⟨rfl, below_drewNv hB _⟩
  · have h1z : ¬ (k : Int) < (l.length : Int) := by omega
    have hd : decide ((k : Int) < (l.length : Int)) = false := decide_eq_false h1z
    have hd' : decide (k < l.length) = false := decide_eq_false h1
    have hn' : o = ans := (Hno.out (fun h => absurd h h1)).symm
    have HS3 := Lib.hid (HS.out.mono (R' := fun e w' => e = .returned (.int .i64 k) ∧ w'.cell? ⟨w.heap.size, 0, none⟩ = some (.slice (some ⟨b, 0, none⟩) l.length cap) ∧ w'.cell? ⟨w.heap.size + 1, 0, none⟩ = some (.int .i64 c) ∧ Below w.heap.size w w')
      (fun e w' ⟨g1, g2, g3, g4, g5⟩ => ⟨g1, g2, g3, g5⟩))
    obtain rfl := hn'
    clear Hyes Hno HS
    generalize l.length = n at *
    go_enter Tryz.func216, Tryz.ntmps216
    go_wp2_with (go_at_call 228; refine HS3.out.mono ?_; rintro e w1 ⟨rfl, d1, d2, hB⟩)
    go_quiet (fail)
    go_wp2
    go_ret
    exact ⟨rfl, below_drewNv hB _⟩
end Go.Proofs.YtlibdhnlmekmhaaGreatDoor.CFind
end

/- Small laws on worlds and operations that the walks of this seat use. -/
section
namespace Go.Proofs.YtlibdhnlmekmhaaGreatDoor.Laws
open Go.RowKit

theorem alloc_setRow (w : World) (old cells : Array Value) (t : TypeId) : (w.alloc (.cells old t)).setRow w.heap.size cells = w.alloc (.cells cells t) := by
  unfold World.setRow World.alloc
  congr 1
  apply Array.ext
  · simp
  · intro i h1 h2
    simp only [Array.getElem_modify, Array.getElem_push]
    split
    · rename_i h
      subst h
      simp
    · split
      · rfl
      · simp_all; omega

section
variable {P : Program}
/-- A whole array or struct stored into the block that was laid last. -/
theorem wpList_store_new {ops : Array Oper} {rest : List Oper} {o : Oper} {a : Act} {w : World} {Q : Exit → Act → World → Prop} (hgd : o.guard = none) (ty : TypeId) (x y : Operand) (ho : o.op = .store ty x y) (hdst : o.dst = none)
    (cells old : Array Value) (t : TypeId) (hx : a.eval x = .pointer (some ⟨w.heap.size, 0, none⟩)) (hy : a.eval y = .agg cells)
    (hi : (P.info? ty).map (·.size) = some cells.size) (hold : old.size = cells.size) (h1 : cells.all (·.oneCell') = true)
    (h : wpList P ops Q rest a (w.alloc (.cells cells t))) : wpList P ops Q (o :: rest) a (w.alloc (.cells old t)) := by
  refine wpList_store_row hgd ty x y ho w.heap.size cells hx hy t old (heap_alloc_new w _) hi hold h1 ?_
  rw [alloc_setRow, hdst]
  exact h

/-- append of a slice that lies in memory onto a row of the call's own, the operation guarded or not. -/
theorem wpList_append_at {ops : Array Oper} {rest : List Oper} {o : Oper} {a : Act} {w : World} {Q : Exit → Act → World → Prop} (hw : Region.wanted o (yielded ops a.tmps) = true) (s x : Operand) (t : TypeId)
    (ho : o.op = .call { callee := .builtin .append, args := #[s, x], argTypes := #[t, t] })
    (base : Nat) (e : TypeId) (i : TypeInfo) (z : Value) (size bytes : Nat) (ht : P.underlying t = some (.slice e)) (hi : P.info? e = some i) (hz : i.zero = some z)
    (hsize : i.size = size) (hby : i.bytes = bytes) (hzs : z.cells.size = size) (hsz : 0 < size)
    (v : Value) (n : Nat) (xs : List Value) (hs : a.eval s = v) (hown : w.ownsRow base e size v n xs)
    (ad : Addr) (m c : Nat) (news : List Value) (hx : a.eval x = .slice (some ad) m c) (hl : news.length = m * size) (hnews : ∀ j u, news[j]? = some u → w.cell? (ad.add j) = some u) (h1 : ∀ u ∈ news, u.oneCell' = true)
    (h63 : n + m ≤ maxLen) (hbytes : (n + m) * bytes ≤ 140737488355328) (hbase : base ≤ w.heap.size)
    (h : ∀ v' w', w'.ownsRow base e size v' (n + m) (xs ++ news) → w.grownBy w' v.ownBlock → wpList P ops Q rest (a.put o.dst v') w') : wpList P ops Q (o :: rest) a w := by
  obtain ⟨v', w', hrun, h2, h3, _⟩ := run_append_own_at (P := P) w base t o.type e i z size bytes ht hi hz hsize hby hzs hsz v n xs hown ad m c news hl hnews h1 h63 hbytes hbase
  unfold wpList
  rw [if_pos hw]
  left
  unfold Oper.wp execOp
  simp only [ho, resolve, invoke, builtin, Sem.run_bind, Sem.run_pure, Result.andThen_ok, List.map_toArray, List.map_cons, List.map_nil, hs, hx, hrun]
  exact h v' w' h2 h3
/-- An owned row stays in a world that has only grown. -/
theorem owns_below {w w' : World} {base : Nat} {e : TypeId} {size : Nat} {v : Value} {n : Nat} {xs : List Value} (h : w.ownsRow base e size v n xs) (hb : Below w.heap.size w w') : w'.ownsRow base e size v n xs := by
  refine ⟨h.1, ?_⟩
  rcases h.2 with h0 | ⟨g, cap, cur, hv, hbg, hg, rest⟩
  · exact .inl h0
  · exact .inr ⟨g, cap, cur, hv, hbg, (hb.block g (Array.getElem?_eq_some_iff.1 hg).1).trans hg, rest⟩
theorem owns_base {w : World} {base base' : Nat} {e : TypeId} {size : Nat} {v : Value} {n : Nat} {xs : List Value} (h : w.ownsRow base e size v n xs) (hb : base' ≤ base) : w.ownsRow base' e size v n xs := by
  refine ⟨h.1, ?_⟩
  rcases h.2 with h0 | ⟨g, cap, cur, hv, hbg, rest⟩
  · exact .inl h0
  · exact .inr ⟨g, cap, cur, hv, by omega, rest⟩
end
end Go.Proofs.YtlibdhnlmekmhaaGreatDoor.Laws
end

/- The contracts of runes.Up, Down and Fold, each by its table of spans. -/
section
namespace Go.Proofs.YtlibdhnlmekmhaaGreatDoor.Chars
set_option maxRecDepth 100000
open Go.RowKit Go.Shelf Go.Lib Go.Sort
open Go.Proofs.YtlibdhnlmekmhaaGreatDoor.Spans Go.Proofs.YtlibdhnlmekmhaaGreatDoor.CFind Go.Proofs.YtlibdhnlmekmhaaGreatDoor.Laws

def upSpans : List Span := [(97, 122, -32), (224, 246, -32), (248, 254, -32), (945, 961, -32), (962, 962, -31), (963, 969, -32), (1072, 1103, -32), (1104, 1119, -80)]
def downSpans : List Span := [(65, 90, 32), (192, 214, 32), (216, 222, 32), (913, 929, 32), (931, 937, 32), (1024, 1039, 80), (1040, 1071, 32)]
def wordSpans : List Span := [(48, 57, 1), (65, 90, 1), (97, 122, 1), (170, 170, 1), (181, 181, 1), (186, 186, 1), (192, 214, 1), (216, 246, 1), (248, 591, 1), (768, 893, 1), (895, 902, 1), (904, 1023, 1), (1024, 1327, 1), (1488, 1514, 1), (12353, 12543, 1), (13312, 40959, 1), (44032, 55203, 1), (131072, 262141, 1)]
def widthSpans : List Span := [(0, 8, 2), (10, 31, 2), (127, 127, 2), (768, 879, 0), (1155, 1161, 0), (1425, 1469, 0), (4352, 4447, 2), (8203, 8207, 0), (8400, 8447, 0), (11904, 12350, 2), (12353, 42191, 2), (44032, 55203, 2), (63744, 64255, 2), (65024, 65039, 0), (65056, 65071, 0), (65072, 65135, 2), (65280, 65376, 2), (65504, 65510, 2), (127744, 128591, 2), (129280, 129535, 2), (131072, 262141, 2)]
/-- The cells of spans. -/
def cellsOf (l : List Span) : List Value := l.flatMap fun s => [.int .i64 s.1, .int .i64 s.2.1, .int .i64 s.2.2]

theorem cellsOf_at : ∀ (l : List Span) (i : Nat), i < l.length → (cellsOf l)[i * 3]? = some (.int .i64 (l.getD i (0, 0, 0)).1) ∧ (cellsOf l)[i * 3 + 1]? = some (.int .i64 (l.getD i (0, 0, 0)).2.1) ∧ (cellsOf l)[i * 3 + 2]? = some (.int .i64 (l.getD i (0, 0, 0)).2.2)
  | [], i, h => absurd h (by simp)
  | s :: r, 0, _ => ⟨rfl, rfl, rfl⟩
  | s :: r, i + 1, h => by
    have ih := cellsOf_at r i (by simpa using h)
    have e : cellsOf (s :: r) = [.int .i64 s.1, .int .i64 s.2.1, .int .i64 s.2.2] ++ cellsOf r := rfl
    rw [e]
    refine ⟨?_, ?_, ?_⟩
    · rw [List.getElem?_append_right (by simp; omega), show (i + 1) * 3 - [Value.int .i64 s.1, .int .i64 s.2.1, .int .i64 s.2.2].length = i * 3 by simp; omega]; exact ih.1
    · rw [List.getElem?_append_right (by simp; omega), show (i + 1) * 3 + 1 - [Value.int .i64 s.1, .int .i64 s.2.1, .int .i64 s.2.2].length = i * 3 + 1 by simp; omega]; exact ih.2.1
    · rw [List.getElem?_append_right (by simp; omega), show (i + 1) * 3 + 2 - [Value.int .i64 s.1, .int .i64 s.2.1, .int .i64 s.2.2].length = i * 3 + 2 by simp; omega]; exact ih.2.2

theorem spanRow_new (w : World) (l : List Span) (t : TypeId) : SpanRow (w.alloc (.cells (cellsOf l).toArray t)) w.heap.size l := by
  intro i hi
  obtain ⟨h1, h2, h3⟩ := cellsOf_at l i hi
  have h : ∀ j v, (cellsOf l)[j]? = some v → (w.alloc (.cells (cellsOf l).toArray t)).cell? ⟨w.heap.size, j, none⟩ = some v := by
    intro j v hv
    have hj : j < (cellsOf l).length := (List.getElem?_eq_some_iff.1 hv).1
    rw [World.cell?_alloc_at _ _ _ _ (by simp)]
    simpa using hv
  exact ⟨h _ _ h1, h _ _ h2, h _ _ h3⟩

/-- runes.find over a table that was laid last. -/
theorem table_any (l : List Span) (t : TypeId) (n : Nat) (c o : Int) (w : World) (hl : l.length = n) (ha : Rises l) (hn : n < 4611686018427387904) :
    Calls Tryz.prog 216 #[.slice (some ⟨w.heap.size, 0, none⟩) n n, .int .i64 c, .int .i64 o] (w.alloc (.cells (cellsOf l).toArray t)) fun e w' => e = .returned (.int .i64 (findR l c o)) ∧ Below w.heap.size w w' := by
  subst hl
  exact (find_any w.heap.size l.length l c o _ (spanRow_new w l t) (by simp) ha hn).mono fun e w' ⟨he, hb⟩ => ⟨he, ((Below.refl _ w).alloc (Nat.le_refl _) _).trans (hb.mono (by simp))⟩

theorem up_asc : Rises upSpans := by unfold Rises upSpans; decide
theorem down_asc : Rises downSpans := by unfold Rises downSpans; decide
theorem word_asc : Rises wordSpans := by unfold Rises wordSpans; decide
theorem width_asc : Rises widthSpans := by unfold Rises widthSpans; decide

def upZ (c : Int) : Int := c + findR upSpans c 0
def downZ (c : Int) : Int := c + findR downSpans c 0

theorem up_wf (c : Int) (h0 : -9223372036854775808 ≤ c) (h1 : c ≤ 9223372036854775807) : -9223372036854775808 ≤ upZ c ∧ upZ c ≤ 9223372036854775807 := by
  simp only [upZ, findR, upSpans]; omega
theorem down_wf (c : Int) (h0 : -9223372036854775808 ≤ c) (h1 : c ≤ 9223372036854775807) : -9223372036854775808 ≤ downZ c ∧ downZ c ≤ 9223372036854775807 := by
  simp only [downZ, findR, downSpans]; omega

set_option maxHeartbeats 400000 in
theorem down_any (c : Int) (w : World) (h0 : -9223372036854775808 ≤ c) (h1 : c ≤ 9223372036854775807) :
    Calls Tryz.prog 202 #[.int .i64 c] w fun e w' => e = .returned (.int .i64 (downZ c)) ∧ Below w.heap.size w w' := by
  have hF := table_any downSpans 216 7 c 0 w rfl down_asc (by omega)
  have hw := down_wf c h0 h1
  unfold downZ at hw ⊢
  have HF := Lib.hid hF
  clear hF
  generalize findR downSpans c 0 = r at *
  go_enter Tryz.func202, Tryz.ntmps202
  go_wp2_with (first
    | (refine wpList_buildTo rfl 216 _ rfl _ rfl (cellsOf downSpans).toArray (by kernel_rfl) ?_)
    | (refine wpList_store_new rfl 216 _ _ rfl rfl (cellsOf downSpans).toArray _ _ rfl rfl (by kernel_rfl) (by kernel_rfl) (by kernel_rfl) ?_)
    | (go_at_call 216; refine HF.out.mono ?_; rintro e w' ⟨rfl, hB⟩))
  go_ret
  exact ⟨rfl, hB⟩

/-- The fold of a character. -/
def foldZ (c : Int) : Int := downZ (upZ c)

end Go.Proofs.YtlibdhnlmekmhaaGreatDoor.Chars
end
