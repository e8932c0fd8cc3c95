/- Rows of words: appendTo, and copyistkit.Same at the same words. -/
import Derived.Test.YtkbdonecbepfnaaVsTab
import Derived.Test.YtkbdonecbepfnaaAppend
namespace Go.Proofs.Ytkbdonecbepfnaa.Vs
open Go.RowKit Go.Maps Go.Lib
open Go.Proofs.Ytkbdonecbepfnaa.Own
set_option maxRecDepth 100000

def wcells : List Wd → List Value
  | [] => []
  | w :: l => .int .i64 w.1 :: .int .i64 w.2 :: wcells l
theorem wcells_length (l : List Wd) : (wcells l).length = l.length * 2 := by
  induction l with
  | nil => rfl
  | cons s l ih => simp only [wcells, List.length_cons, ih]; omega
theorem wcells_append (l m : List Wd) : wcells (l ++ m) = wcells l ++ wcells m := by
  induction l with
  | nil => rfl
  | cons s l ih => simp [wcells, ih]
theorem wcells_at (l : List Wd) (k : Nat) (w : Wd) (h : l[k]? = some w) : (wcells l)[k * 2]? = some (.int .i64 w.1) ∧ (wcells l)[k * 2 + 1]? = some (.int .i64 w.2) := by
  induction l generalizing k with
  | nil => simp at h
  | cons s l ih =>
    cases k with
    | zero =>
      simp only [List.getElem?_cons_zero, Option.some.injEq] at h
      subst h
      exact ⟨rfl, rfl⟩
    | succ k =>
      rw [List.getElem?_cons_succ] at h
      have := ih k h
      rw [show (k + 1) * 2 = k * 2 + 1 + 1 by omega, wcells, List.getElem?_cons_succ, List.getElem?_cons_succ, List.getElem?_cons_succ, List.getElem?_cons_succ]
      exact this

/-- What a cell adds to the values. -/
def opt (c : Cl) : List Wd := if c.2 = true then [c.1] else []
theorem word_info : (Try.prog.info? 29).map (fun i => (i.zero, i.size, i.bytes)) = some (some (.agg #[.int .i64 0, .int .i64 0]), 2, 16) := by kernel_rfl
theorem two_cell (w : World) (x y : Value) (t : TypeId) : ∀ j u, [x, y][j]? = some u → (w.alloc (.cells #[x, y] t)).cell? ((⟨w.heap.size, 0, none⟩ : Addr).add j) = some u := by
  intro j u hj
  have h := Blk.new w #[x, y] t
  rcases j with _ | _ | j
  · simp at hj; subst hj; exact h.cell 0 _ rfl
  · simp at hj; subst hj; exact h.cell 1 _ rfl
  · simp at hj
theorem two_cellAt {b : Nat} (w : World) (x y : Value) (t : TypeId) (hb : b = w.heap.size) : ∀ j u, [x, y][j]? = some u → (w.alloc (.cells #[x, y] t)).cell? ((⟨b, 0, none⟩ : Addr).add j) = some u := by
  subst hb
  exact two_cell w x y t
theorem two_one (a b : Int) : ∀ u ∈ [Value.int .i64 a, .int .i64 b], u.oneCell' = true := by
  intro u hu
  simp at hu
  rcases hu with rfl | rfl <;> rfl

/-- What an append of at most a word leaves. -/
structure Grew (w w' : World) (base : Nat) (v v' : Value) (l : List Wd) : Prop where
  row : w'.ownsRow base 29 2 v' l.length (wcells l)
  keeps : Keeps (fun b => v.ownBlock = some b) w w'
  place : ∀ b, v'.ownBlock = some b → v.ownBlock = some b ∨ w.heap.size ≤ b

set_option maxHeartbeats 1000000 in
theorem appendTo_any (base : Nat) (c : Cl) (v : Value) (l : List Wd) (w : World) (h : w.ownsRow base 29 2 v l.length (wcells l)) (hb : base ≤ w.heap.size) (hn : l.length < 5000000000) :
    Calls Try.prog 49 #[clv c, v] w fun e w' => ∃ v', e = .returned v' ∧ Grew w w' base v v' (l ++ opt c) := by
  obtain ⟨i0, hi, hz0, hz1, hz2⟩ := info_parts word_info
  have HI := Lib.hid hi
  have HZ0 := Lib.hid hz0
  have HZ1 := Lib.hid hz1
  have HZ2 := Lib.hid hz2
  have HB := Lib.hid hb
  have HN := Lib.hid hn
  have HO := Lib.hid h
  obtain ⟨A, cc, rfl⟩ := slice_of' h
  clear h hi hz0 hz1 hz2 hb hn
  obtain ⟨⟨k, n⟩, b⟩ := c
  go_enter Try.func49, Try.ntmps49
  cases b with
  | false =>
    go_wp2_with fail
    go_ret
    have hbl : Below w.heap.size w (w.alloc (.cells #[.int .i64 k, .int .i64 n, .bool false] 62)) := (Below.refl _ _).alloc (Nat.le_refl _) _
    exact ⟨_, rfl, by rw [show opt ((k, n), false) = [] from rfl, List.append_nil]; exact owns_below HO.out hbl, .of_below hbl, fun b hb => .inl hb⟩
  | true =>
    go_wp2_with (at_builtin; go_loud (refine wpList_append_place rfl (.tmp 9) (.tmp 12) 37 rfl base 29 i0 (.agg #[.int .i64 0, .int .i64 0]) 2 16 Try.underlying37 HI.out HZ0.out HZ1.out HZ2.out rfl (by decide) (.slice A l.length cc) l.length (wcells l) rfl (owns_below HO.out (((Below.refl _ _).alloc (Nat.le_refl _) _).alloc (by simp) _)) ⟨_, 0, none⟩ 1 1 [.int .i64 k, .int .i64 n] rfl rfl (two_cellAt _ _ _ _ (by simp)) (two_one _ _) (by as_aux_lemma => (have := HN.out; unfold maxLen; omega)) (by as_aux_lemma => (have := HN.out; omega)) (by as_aux_lemma => (have := HB.out; simp; omega)) ?_))
    intro A6 c6 w6 hap
    have HAP := Lib.hid hap
    clear hap
    go_wp2_with fail
    go_ret
    refine ⟨_, rfl, ?_, ?_, fun b hb => ?_⟩
    · rw [show opt ((k, n), true) = [(k, n)] from rfl, wcells_append, List.length_append]
      exact HAP.out.row
    · exact (Keeps.alloc (Keeps.alloc (.refl _ w) _) _).grown HAP.out.grown fun k hk _ => hk
    · rcases HAP.out.place b hb with e | e
      · exact .inl e
      · refine .inr ?_
        rw [e]
        simp
        omega

set_option maxHeartbeats 1000000 in
theorem same_core (A1 A2 : Option Addr) (n c1 c2 : Nat) (l : List Wd) (w : World) (HN : Hid (l.length = n)) (hn : n ≤ 10000000000)
    (R1' : Hid (0 < n → ∃ g off, A1 = some ⟨g, off, none⟩ ∧ ∀ j u, (wcells l)[j]? = some u → w.cell? ⟨g, off + j, none⟩ = some u))
    (R2' : Hid (0 < n → ∃ g off, A2 = some ⟨g, off, none⟩ ∧ ∀ j u, (wcells l)[j]? = some u → w.cell? ⟨g, off + j, none⟩ = some u)) :
    Calls Try.prog 17 #[.slice A1 n c1, .slice A2 n c2] w fun e w' => e = .returned (.bool true) ∧ ∃ q, w' = w.drewN q := by
  go_enter Try.func17, Try.ntmps17
  go_wp2
  go_loopw [5] (fun s wr => ∃ k : Nat, s = .int .i64 (k : Int) ∧ Hid (∃ q, wr = w.drewN q) ∧ k ≤ n) (fun s _ => n - (intOf s).toNat)
  case atStart => exact ⟨0, rfl, ⟨0, rfl⟩, Nat.zero_le _⟩
  case round =>
    obtain ⟨k, rfl, HQ, hk⟩ := hrel
    by_cases hlt : k < n
    · have hltz : (k : Int) < n := by omega
      obtain ⟨g1, o1, rfl, d1⟩ := R1'.out (by omega)
      obtain ⟨g2, o2, rfl, d2⟩ := R2'.out (by omega)
      obtain ⟨x, hx⟩ : ∃ x, l[k]? = some x := ⟨_, List.getElem?_eq_getElem (by rw [HN.out]; exact hlt)⟩
      obtain ⟨t1, t2⟩ := wcells_at l k x hx
      have e1 : wr.cell? ⟨g1, o1 + k * 2, none⟩ = some (.int .i64 x.1) := by obtain ⟨q, hq⟩ := HQ.out; rw [hq]; exact d1 _ _ t1
      have e2 : wr.cell? ⟨g1, o1 + k * 2 + 1, none⟩ = some (.int .i64 x.2) := by obtain ⟨q, hq⟩ := HQ.out; rw [hq]; exact d1 _ _ t2
      have e3 : wr.cell? ⟨g2, o2 + k * 2, none⟩ = some (.int .i64 x.1) := by obtain ⟨q, hq⟩ := HQ.out; rw [hq]; exact d2 _ _ t1
      have e4 : wr.cell? ⟨g2, o2 + k * 2 + 1, none⟩ = some (.int .i64 x.2) := by obtain ⟨q, hq⟩ := HQ.out; rw [hq]; exact d2 _ _ t2
      clear t1 t2 hx d1 d2
      go_wp2
      go_quiet (fail)
      go_wp2
      go_roundw
      case rel => exact ⟨k + 1, by go_num, by obtain ⟨q, hq⟩ := HQ.out; exact ⟨q + nq, by rw [hq, World.drewN_drewN]⟩, by omega⟩
      case measure => simp [intOf]; omega
    · have hltz : ¬ (k : Int) < n := by omega
      go_wp2
      go_ret
      exact ⟨rfl, HQ.out⟩
theorem owns_read {w : World} {base : Nat} {e : TypeId} {size : Nat} {A : Option Addr} {n c : Nat} {xs : List Value} (h : w.ownsRow base e size (.slice A n c) n xs) : 0 < n → ∃ g off, A = some ⟨g, off, none⟩ ∧ ∀ j u, xs[j]? = some u → w.cell? ⟨g, off + j, none⟩ = some u := by
  intro h0
  rcases h.2 with ⟨_, hz⟩ | ⟨g, cap, cur, hv, _⟩
  · omega
  · cases hv
    refine ⟨g, 0, rfl, fun j u hu => ?_⟩
    rw [Nat.zero_add]
    exact (Row.of_owns h).cell j u hu
theorem same_eq (v1 v2 : Value) (b1 b2 : Nat) (l : List Wd) (w : World) (h1 : w.ownsRow b1 29 2 v1 l.length (wcells l)) (h2 : w.ownsRow b2 29 2 v2 l.length (wcells l)) (hn : l.length ≤ 10000000000) :
    Calls Try.prog 17 #[v1, v2] w fun e w' => e = .returned (.bool true) ∧ Below w.heap.size w w' := by
  obtain ⟨A1, c1, rfl⟩ := slice_of' h1
  obtain ⟨A2, c2, rfl⟩ := slice_of' h2
  refine (same_core A1 A2 _ c1 c2 l w rfl hn (owns_read h1) (owns_read h2)).mono ?_
  rintro e w' ⟨he, q, rfl⟩
  exact ⟨he, ⟨rfl, rfl, rfl, Nat.le_refl _, fun _ _ => rfl⟩⟩
end Go.Proofs.Ytkbdonecbepfnaa.Vs
