/- The contracts of the search for a property: cmp.Compare, BinarySearchFunc, place. -/
import Derived.Test.YtcdlfgggmigcnaaDoorNtCell
import Derived.Deep.LoopGhost
import Derived.LoopTactic
import Derived.IntWalk
namespace Go.Proofs.YtcdlfgggmigcnaaDoor.Nt
set_option maxRecDepth 100000
open Go.RowKit
open Go.Proofs.YtcdlfgggmigcnaaDoor.Own

/-- A property by value. -/
abbrev prv (p : Int × Wd) : Value := .agg #[.int .i64 p.1, .int .i64 p.2.1, .int .i64 p.2.2]
theorem nan_any (n : Int) (w : World) : Calls Tryd.prog 133 #[.int .i64 n] w fun e w' => e = .returned (.bool false) ∧ w = w' := by
  go_enter Tryd.func133, Tryd.ntmps133
  go_wp2
  go_ret
  exact ⟨rfl, rfl⟩
def cmpZ (a b : Int) : Int := if a < b then -1 else if b < a then 1 else 0
set_option maxHeartbeats 1000000 in
theorem cmp_any (a b : Int) (w : World) : Calls Tryd.prog 124 #[.int .i64 a, .int .i64 b] w fun e w' => e = .returned (.int .i64 (cmpZ a b)) ∧ w = w' := by
  have HN := Lib.hid nan_any
  unfold cmpZ
  by_cases h1 : a < b
  · rw [if_pos h1]
    go_enter Tryd.func124, Tryd.ntmps124
    go_wp2_with (go_at_call 133; refine (HN.out _ _).mono ?_; rintro e w' ⟨rfl, rfl⟩)
    go_ret
    exact ⟨rfl, rfl⟩
  · rw [if_neg h1]
    by_cases h2 : b < a
    · rw [if_pos h2]
      go_enter Tryd.func124, Tryd.ntmps124
      go_wp2_with (go_at_call 133; refine (HN.out _ _).mono ?_; rintro e w' ⟨rfl, rfl⟩)
      go_ret
      exact ⟨rfl, rfl⟩
    · rw [if_neg h2]
      go_enter Tryd.func124, Tryd.ntmps124
      go_wp2_with (go_at_call 133; refine (HN.out _ _).mono ?_; rintro e w' ⟨rfl, rfl⟩)
      go_ret
      exact ⟨rfl, rfl⟩
theorem clos_any (p : Int × Wd) (key : Int) (w : World) : Calls Tryd.prog 123 #[prv p, .int .i64 key] w fun e w' => e = .returned (.int .i64 (cmpZ p.1 key)) ∧ Below w.heap.size w w' := by
  have HC := Lib.hid (cmp_any p.1 key)
  have HB := Lib.hid ((Below.refl w.heap.size w).alloc (Nat.le_refl _) (.cells #[.int .i64 p.1, .int .i64 p.2.1, .int .i64 p.2.2] 98))
  generalize cmpZ p.1 key = c at *
  go_enter Tryd.func123, Tryd.ntmps123
  go_wp2_with fail
  refine (HC.out _).mono ?_
  rintro e w' ⟨rfl, rfl⟩
  go_wp2_with fail
  go_ret
  exact ⟨rfl, HB.out⟩

/-- How many keys are less than one. -/
def placeN (l : List (Int × Wd)) (key : Int) : Nat := l.countP fun p => decide (p.1 < key)
/-- Whether a key is there. -/
def hasKey (l : List (Int × Wd)) (key : Int) : Bool := match l[placeN l key]? with | some p => p.1 == key | none => false

theorem placeN_bound {l : List (Int × Wd)} {key : Int} {i : Nat} (hi : i ≤ l.length) (h1 : ∀ (j : Nat) (p : Int × Wd), j < i → l[j]? = some p → p.1 < key) (h2 : ∀ (j : Nat) (p : Int × Wd), i ≤ j → l[j]? = some p → ¬ p.1 < key) : placeN l key = i := by
  unfold placeN
  induction l generalizing i with
  | nil => simp at hi; simp [hi]
  | cons x l ih =>
    cases i with
    | zero =>
      rw [List.countP_eq_zero]
      intro p hp
      obtain ⟨j, hj, rfl⟩ := List.getElem_of_mem hp
      simpa using h2 j _ (Nat.zero_le _) (List.getElem?_eq_getElem hj)
    | succ i =>
      have hx : decide (x.1 < key) = true := decide_eq_true (h1 0 x (by omega) rfl)
      rw [List.countP_cons_of_pos (p := fun p : Int × Wd => decide (p.1 < key)) hx, ih (i := i) (by simpa using hi) (fun j p hj hp => h1 (j + 1) p (by omega) (by simpa using hp)) (fun j p hj hp => h2 (j + 1) p (by omega) (by simpa using hp))]
theorem asc_lt {l : List (Int × Wd)} (h : Asc l) {i j : Nat} {p q : Int × Wd} (hij : i < j) (hp : l[i]? = some p) (hq : l[j]? = some q) : p.1 < q.1 := by
  obtain ⟨hi, e1⟩ := List.getElem?_eq_some_iff.1 hp
  obtain ⟨hj, e2⟩ := List.getElem?_eq_some_iff.1 hq
  have := List.pairwise_iff_getElem.1 h i j hi hj hij
  rw [e1, e2] at this
  exact this

/-- The cells of a row of properties. -/
theorem pcells_at (l : List (Int × Wd)) (i : Nat) (p : Int × Wd) (h : l[i]? = some p) : (pcells l)[i * 3]? = some (.int .i64 p.1) ∧ (pcells l)[i * 3 + 1]? = some (.int .i64 p.2.1) ∧ (pcells l)[i * 3 + 2]? = some (.int .i64 p.2.2) := by
  induction l generalizing i with
  | nil => simp at h
  | cons x l ih =>
    cases i with
    | zero =>
      simp at h
      subst h
      exact ⟨rfl, rfl, rfl⟩
    | succ i =>
      simp at h
      have := ih i h
      simp only [pcells, show (i + 1) * 3 = i * 3 + 1 + 1 + 1 by omega, List.getElem?_cons_succ]
      exact this
/-- A slice of properties that is read. -/
def PrR (w : World) (v : Value) (l : List (Int × Wd)) : Prop := ∃ A cap, v = .slice A l.length cap ∧ (0 < l.length → ∃ g, A = some ⟨g, 0, none⟩ ∧ Row w g (pcells l))
theorem PrR.below {w w' : World} {v : Value} {l : List (Int × Wd)} (h : PrR w v l) (hb : Below w.heap.size w w') : PrR w' v l := by
  obtain ⟨A, cap, hv, hr⟩ := h
  refine ⟨A, cap, hv, fun h0 => ?_⟩
  obtain ⟨g, hA, hrow⟩ := hr h0
  exact ⟨g, hA, hrow.below hb⟩
theorem PrR.of_own {w : World} {base : Nat} {v : Value} {l : List (Int × Wd)} (h : w.ownsRow base 98 3 v l.length (pcells l)) : PrR w v l := by
  rcases h.2 with ⟨hv, h0⟩ | ⟨g, cap, cur, hv, _⟩
  · exact ⟨none, 0, by rw [hv, h0], fun h1 => by omega⟩
  · exact ⟨_, cap, hv, fun _ => ⟨g, rfl, Row.of_owns (by rw [hv] at h; exact h)⟩⟩

set_option maxHeartbeats 4000000 in
theorem search_any (v : Value) (l : List (Int × Wd)) (key : Int) (w : World) (h : PrR w v l) (ha : Asc l) (hl : l.length ≤ 16384) :
    Calls Tryd.prog 122 #[v, .int .i64 key, .func (.func 123) #[] #[]] w fun e w' => e = .returned (.tuple #[.int .i64 (placeN l key : Int), .bool (hasKey l key)]) ∧ Below w.heap.size w w' := by
  obtain ⟨A, cap, rfl, hr⟩ := h
  obtain ⟨n, hn⟩ : ∃ n, l.length = n := ⟨_, rfl⟩
  have HR := Lib.hid hr
  have HA := Lib.hid ha
  have HN := Lib.hid hn
  have HC := Lib.hid clos_any
  obtain ⟨R1, hR1⟩ : ∃ R, placeN l key = R := ⟨_, rfl⟩
  obtain ⟨R2, hR2⟩ : ∃ R, hasKey l key = R := ⟨_, rfl⟩
  rw [hR1, hR2]
  have H1 := Lib.hid hR1
  have H2 := Lib.hid hR2
  rw [hn] at hl ⊢
  clear hr ha hn hR1 hR2
  go_enter Tryd.func122, Tryd.ntmps122
  go_wp2_with fail
  go_loopg [9, 10] n (fun kx s9 s10 wr => ∃ lo hi : Nat, s9 = .int .i64 (lo : Int) ∧ s10 = .int .i64 (hi : Int) ∧ lo ≤ hi ∧ hi ≤ n ∧ hi - lo ≤ kx ∧ Hid (Below w.heap.size w wr) ∧ Hid ((∀ (j : Nat) (p : Int × Wd), j < lo → l[j]? = some p → p.1 < key) ∧ ∀ (j : Nat) (p : Int × Wd), hi ≤ j → l[j]? = some p → ¬ p.1 < key))
  case atStart => exact ⟨0, n, rfl, rfl, Nat.zero_le _, Nat.le_refl _, by omega, Below.refl _ _, ⟨fun j p hj => absurd hj (Nat.not_lt_zero _), fun j p hj hp => by have := (List.getElem?_eq_some_iff.1 hp).1; have := HN.out; omega⟩⟩
  case round =>
    obtain ⟨lo, hi, rfl, rfl, hlh, hin, hg, HB, HI⟩ := hrel
    by_cases hlt : lo < hi
    · have hltz : (lo : Int) < hi := by omega
      obtain ⟨m, hm⟩ : ∃ m, (lo + hi) / 2 = m := ⟨_, rfl⟩
      have hmz : ((lo : Int) + (hi : Int)) / 2 = (m : Int) := by omega
      have hmn : m < n := by omega
      have hmnz : (m : Int) < (n : Int) := by omega
      have hm2 : lo ≤ m ∧ m < hi := by omega
      obtain ⟨g, rfl, hrow⟩ := HR.out (by rw [HN.out]; omega)
      obtain ⟨p, hp⟩ : ∃ p, l[m]? = some p := ⟨l[m]'(by rw [HN.out]; exact hmn), List.getElem?_eq_getElem _⟩
      obtain ⟨d1, d2, d3⟩ := pcells_at l m p hp
      have c1 := (hrow.below HB.out).cell _ _ d1
      have c2 := (hrow.below HB.out).cell _ _ d2
      have c3 := (hrow.below HB.out).cell _ _ d3
      have HM := Lib.hid (And.intro hm2 hm)
      have HP := Lib.hid hp
      by_cases hlt2 : p.1 < key
      · have hc : cmpZ p.1 key = -1 := by unfold cmpZ; rw [if_pos hlt2]
        have HCl := Lib.hid (fun w => HC.out p key w)
        rw [hc] at HCl
        clear d1 d2 d3 hrow hm2 hp hc hm
        go_wp2_with (go_at_call 123; refine (HCl.out _).mono ?_; rintro e w2 ⟨rfl, hb2⟩)
        have HB2 := Lib.hid (HB.out.trans (hb2.mono HB.out.size))
        go_roundg (hi - (m + 1))
        case measure => have := HM.out; omega
        case rel => exact ⟨m + 1, hi, by go_num, rfl, by have := HM.out; omega, hin, Nat.le_refl _, HB2, ⟨fun j q hj hq => by
          by_cases e : j = m
          · subst e; rw [HP.out] at hq; cases hq; exact hlt2
          · have := asc_lt HA.out (show j < m by omega) hq HP.out; omega, HI.out.2⟩⟩
      · have hc : ¬ cmpZ p.1 key < 0 := by unfold cmpZ; rw [if_neg hlt2]; split <;> omega
        obtain ⟨c, hcc⟩ : ∃ c, cmpZ p.1 key = c := ⟨_, rfl⟩
        rw [hcc] at hc
        have HCl := Lib.hid (fun w => HC.out p key w)
        rw [hcc] at HCl
        clear d1 d2 d3 hrow hm2 hp hcc hm
        go_wp2_with (go_at_call 123; refine (HCl.out _).mono ?_; rintro e w2 ⟨rfl, hb2⟩)
        have HB2 := Lib.hid (HB.out.trans (hb2.mono HB.out.size))
        go_roundg (m - lo)
        case measure => have := HM.out; omega
        case rel => exact ⟨lo, m, rfl, by go_num, HM.out.1.1, by omega, Nat.le_refl _, HB2, ⟨HI.out.1, fun j q hj hq => by
          by_cases e : j = m
          · subst e; rw [HP.out] at hq; cases hq; exact hlt2
          · have := asc_lt HA.out (show m < j by omega) HP.out hq; omega⟩⟩
    · obtain rfl : hi = lo := by omega
      have hltz : ¬ (hi : Int) < hi := by omega
      have hpl := placeN_bound (l := l) (key := key) (i := hi) (by rw [HN.out]; exact hin) HI.out.1 HI.out.2
      rw [H1.out] at hpl
      subst hpl
      by_cases hn2 : R1 < n
      · have hn2z : (R1 : Int) < (n : Int) := by omega
        obtain ⟨g, rfl, hrow⟩ := HR.out (by rw [HN.out]; omega)
        obtain ⟨p, hp⟩ : ∃ p, l[R1]? = some p := ⟨l[R1]'(by rw [HN.out]; exact hn2), List.getElem?_eq_getElem _⟩
        obtain ⟨d1, d2, d3⟩ := pcells_at l R1 p hp
        have c1 := (hrow.below HB.out).cell _ _ d1
        have c2 := (hrow.below HB.out).cell _ _ d2
        have c3 := (hrow.below HB.out).cell _ _ d3
        have hge := HI.out.2 R1 p (Nat.le_refl _) hp
        have HCl := Lib.hid (fun w => HC.out p key w)
        have h2 : R2 = (p.1 == key) := by rw [← H2.out]; unfold hasKey; rw [H1.out, hp]
        by_cases he : p.1 = key
        · have hc : cmpZ p.1 key = 0 := by unfold cmpZ; rw [if_neg hge, if_neg (by omega)]
          rw [hc] at HCl
          have h3 : R2 = true := by rw [h2, he]; simp
          subst h3
          clear d1 d2 d3 hrow hp hc h2 he hge HI HR HA H1 H2
          go_wp2_with (go_at_call 123; refine (HCl.out _).mono ?_; rintro e w2 ⟨rfl, hb2⟩)
          go_ret2
          exact ⟨rfl, HB.out.trans (hb2.mono HB.out.size)⟩
        · have hc : cmpZ p.1 key = 1 := by unfold cmpZ; rw [if_neg hge, if_pos (by omega)]
          rw [hc] at HCl
          have h3 : R2 = false := by rw [h2]; simpa using he
          subst h3
          clear d1 d2 d3 hrow hp hc h2 he hge HI HR HA H1 H2
          go_wp2_with (go_at_call 123; refine (HCl.out _).mono ?_; rintro e w2 ⟨rfl, hb2⟩)
          go_ret2
          exact ⟨rfl, HB.out.trans (hb2.mono HB.out.size)⟩
      · have hn2z : ¬ (R1 : Int) < (n : Int) := by omega
        have h3 : R2 = false := by rw [← H2.out]; unfold hasKey; rw [H1.out, List.getElem?_eq_none (by rw [HN.out]; omega)]
        subst h3
        clear HI HR HA H1 H2
        go_wp2_with fail
        go_ret2
        exact ⟨rfl, HB.out⟩
end Go.Proofs.YtcdlfgggmigcnaaDoor.Nt
