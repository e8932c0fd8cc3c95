/- NamesOnce: the walk of the law. -/
import Derived.Test.YtcdlfgggmigcnaaDoorNtOnceMath
import Derived.Test.YtcdlfgggmigcnaaDoorNtArgs
import Derived.Test.YtcdlfgggmigcnaaDoorAppend
namespace Go.Proofs.YtcdlfgggmigcnaaDoor.Nt
set_option maxRecDepth 100000
open Go.RowKit
open Go.Lib (validD)
open Go.Proofs.YtcdlfgggmigcnaaDoor.Own Go.Proofs.YtcdlfgggmigcnaaDoor.Strs Go.Proofs.YtcdlfgggmigcnaaDoor.NtRef Go.Proofs.YtcdlfgggmigcnaaDoor.Clone Go.Proofs.YtcdlfgggmigcnaaDoor.NtArgs

/-- Whether all texts are no longer than a bound. -/
def shortL (l : List ByteArray) (m : Nat) : Bool := l.all fun s => decide (s.size ≤ m)
set_option maxHeartbeats 1000000 in
theorem light_texts (A : Option Addr) (n c : Nat) (l : List ByteArray) (w : World) (h : SlR w (.slice A n c) n (l.map Value.string)) (hn : l.length = n) (hm : n ≤ 9223372036854775807) (hsz : ∀ s ∈ l, s.size ≤ maxLen) (W : World) (hW : Below w.heap.size w W) :
    Calls Tryd.prog 57 #[.slice A n c, .int .i64 60, .int .i64 300] W fun e w' => e = .returned (.bool (shortL l 300 && decide (n ≤ 60))) ∧ W = w' := by
  have HA := Lib.hid (fun h0 => slr_at h h0)
  have HN := Lib.hid hn
  have HSz := Lib.hid hsz
  have HW := Lib.hid hW
  obtain ⟨R, hR⟩ : ∃ R, (shortL l 300 && decide (n ≤ 60)) = R := ⟨_, rfl⟩
  rw [hR]
  have HR := Lib.hid hR
  clear h hn hsz hW hR
  go_enter Tryd.func57, Tryd.ntmps57
  go_wp2_with fail
  go_loop [7] (fun i => ∃ k : Nat, i = .int .i64 (k : Int) ∧ k ≤ n ∧ Hid (shortL (l.take k) 300 = true)) (fun i => n - (intOf i).toNat)
  case atStart => exact ⟨0, rfl, Nat.zero_le _, rfl⟩
  case round =>
    obtain ⟨k, rfl, hk, HK⟩ := hrel
    by_cases hlt : k < n
    · have hltz : (k : Int) < n := by omega
      obtain ⟨s, hs⟩ : ∃ s, l[k]? = some s := ⟨l[k]'(by rw [HN.out]; exact hlt), List.getElem?_eq_getElem _⟩
      obtain ⟨g, o, rfl, hc⟩ := HA.out (by omega)
      have c0 := hc W HW.out k (.string s) (by rw [List.getElem?_map, hs]; rfl)
      have hss := HSz.out s (List.mem_of_getElem? hs)
      unfold maxLen at hss
      have htk : l.take (k + 1) = l.take k ++ [s] := by rw [List.take_add_one, hs]; rfl
      by_cases h3 : 300 < s.size
      · have hz : (300 : Int) < s.size := by omega
        have hf : R = false := by
          rw [← HR.out]
          have : shortL l 300 = false := by
            rw [Bool.eq_false_iff]
            intro ht
            have := List.all_eq_true.1 ht s (List.mem_of_getElem? hs)
            simp at this
            omega
          rw [this]
          rfl
        subst hf
        clear hc hs htk
        go_wp2_with fail
        go_ret
        exact ⟨rfl, rfl⟩
      · have hz : ¬ (300 : Int) < s.size := by omega
        have HK2 : Hid (shortL (l.take (k + 1)) 300 = true) := by
          show shortL (l.take (k + 1)) 300 = true
          have := HK.out
          unfold shortL at this ⊢
          rw [htk, List.all_append, this]
          simp
          omega
        clear hc hs htk
        go_wp2_with fail
        go_round
        case rel => exact ⟨k + 1, by go_num, by omega, HK2⟩
        case measure => simp [intOf]; omega
    · obtain rfl : k = n := by omega
      have hltz : ¬ (k : Int) < k := by omega
      have hfin : R = decide (k ≤ 60) := by
        have := HK.out
        rw [List.take_of_length_le (by rw [HN.out]; exact Nat.le_refl _)] at this
        rw [← HR.out, this, Bool.true_and]
      by_cases h6 : k ≤ 60
      · have h6z : (k : Int) ≤ 60 := by omega
        have hd : R = true := hfin.trans (decide_eq_true h6)
        clear HR hfin
        subst hd
        go_wp2_with fail
        go_ret
        exact ⟨rfl, rfl⟩
      · have h6z : ¬ (k : Int) ≤ 60 := by omega
        have hd : R = false := hfin.trans (decide_eq_false h6)
        clear HR hfin
        subst hd
        go_wp2_with fail
        go_ret
        exact ⟨rfl, rfl⟩

theorem once_light (A0 A1 : Option Addr) (n c0 n1 c1 : Nat) (l : List ByteArray) (w : World) (h0 : SlR w (.slice A0 n c0) n (l.map Value.string)) (e0 : l.length = n) (hn : n ≤ 9223372036854775807) (_hn1 : n1 ≤ 9223372036854775807) (hsz : ∀ s ∈ l, s.size ≤ maxLen) (hT : Tabs w)
    (h : (shortL l 300 && decide (n ≤ 60)) = false ∨ n1 < n) :
    Calls Tryd.prog 10 #[.slice A0 n c0, .slice A1 n1 c1] w fun e w' => e = .returned (.bool true) ∧ Below w.heap.size w w' := by
  have HL := Lib.hid (lives_any w hT)
  have HLt := Lib.hid (light_texts A0 n c0 l w h0 e0 hn hsz)
  obtain ⟨R, hR⟩ : ∃ R, (shortL l 300 && decide (n ≤ 60)) = R := ⟨_, rfl⟩
  rw [hR] at HLt h
  clear hR h0 hsz e0 hT
  go_enter Tryd.func10, Tryd.ntmps10
  go_wp2_with fail
  refine HL.out.mono ?_
  rintro e w1 ⟨rfl, hb1⟩
  cases R with
  | false =>
    clear h
    go_wp2_with fail
    refine (HLt.out _ hb1).mono ?_
    rintro e w2 ⟨rfl, rfl⟩
    go_wp2_with fail
    go_ret
    exact ⟨rfl, hb1⟩
  | true =>
    have hlt : (n1 : Int) < n := by
      rcases h with h | h
      · cases h
      · omega
    clear h
    go_wp2_with fail
    refine (HLt.out _ hb1).mono ?_
    rintro e w2 ⟨rfl, rfl⟩
    go_wp2_with fail
    go_ret
    exact ⟨rfl, hb1⟩

/-- What holds between the rounds of the first loop. -/
structure Once (w1 wr : World) (tp : Nat) (t : Tb) (lab : Nat → Option TLab) (P : TParts) (av : Value) (L : List ByteArray) (B : List Bool) (k : Nat) (a : List Int) : Prop where
  tab : TabIs wr w1.heap.size tp t lab P
  below : Below w1.heap.size w1 wr
  row : wr.ownsRow w1.heap.size 3 1 av k (a.map (Value.int .i64))
  apart : ∀ b, av.ownBlock = some b → lab b = none
  wf : Wf t
  cnt : t.syms.length ≤ 62 + k
  recs : ∀ i s b, i < k → L[i]? = some s → B[i]? = some b → validD s.data.toList = true → ∃ x : Nat, a[i]? = some (x : Int) ∧ Rec t s b x
theorem Once.later {w1 wr W : World} {tp k : Nat} {t : Tb} {lab : Nat → Option TLab} {P : TParts} {av : Value} {L : List ByteArray} {B : List Bool} {a : List Int} (h : Once w1 wr tp t lab P av L B k a) (hb : Below wr.heap.size wr W) : Once w1 W tp t lab P av L B k a :=
  ⟨h.tab.below hb, h.below.trans (hb.mono h.below.size), owns_below h.row hb, h.apart, h.wf, h.cnt, h.recs⟩

/-- A call has left another table. -/
structure Called (w1 w2 : World) (tp : Nat) (t' : Tb) (lab : Nat → Option TLab) (P : TParts) (av : Value) (L : List ByteArray) (B : List Bool) (k : Nat) (a : List Int) (s : ByteArray) (b : Bool) (x : Int) : Prop where
  tab : TabIs w2 w1.heap.size tp t' lab P
  below : Below w1.heap.size w1 w2
  row : w2.ownsRow w1.heap.size 3 1 av k (a.map (Value.int .i64))
  apart : ∀ b, av.ownBlock = some b → lab b = none
  wf : Wf t'
  cnt : t'.syms.length ≤ 62 + (k + 1)
  recs : ∀ i s b, i < k → L[i]? = some s → B[i]? = some b → validD s.data.toList = true → ∃ x : Nat, a[i]? = some (x : Int) ∧ Rec t' s b x
  this : validD s.data.toList = true → ∃ y : Nat, x = (y : Int) ∧ Rec t' s b y
theorem Once.call {w1 wr w2 : World} {tp k : Nat} {t t' : Tb} {lab : Nat → Option TLab} {P : TParts} {av : Value} {L : List ByteArray} {B : List Bool} {a : List Int} {s : ByteArray} {b : Bool} {x : Int}
    (h : Once w1 wr tp t lab P av L B k a) (ho : TabOk wr w2 w1.heap.size tp t' lab) (he : Ext t t') (hw : Wf t') (hc : t'.syms.length ≤ 62 + (k + 1)) (ht : validD s.data.toList = true → ∃ y : Nat, x = (y : Int) ∧ Rec t' s b y) :
    ∃ lab' P', Called w1 w2 tp t' lab' P' av L B k a s b x := by
  obtain ⟨lab', P', hI, hA⟩ := ho
  refine ⟨lab', P', hI, h.below.trans (hA.bel h.tab h.below.size), owns_keeps h.row hA.keeps (fun b e => by unfold TOf; rw [h.apart b e]; simp), fun b e => ?_, hw, hc, fun i s b hi h1 h2 h3 => ?_, ht⟩
  · have hlt := (h.row.lt b e).2
    cases hh : lab' b with
    | none => rfl
    | some l =>
      rcases hA.grow b (by unfold TOf; rw [hh]; simp) with e2 | e2
      · exact absurd (h.apart b e) e2
      · omega
  · obtain ⟨x, hx, hr⟩ := h.recs i s b hi h1 h2 h3
    exact ⟨x, hx, hr.ext he⟩
theorem Called.later {w1 w2 W : World} {tp k : Nat} {t' : Tb} {lab : Nat → Option TLab} {P : TParts} {av : Value} {L : List ByteArray} {B : List Bool} {a : List Int} {s : ByteArray} {b : Bool} {x : Int} (h : Called w1 w2 tp t' lab P av L B k a s b x) (hb : Below w2.heap.size w2 W) : Called w1 W tp t' lab P av L B k a s b x :=
  ⟨h.tab.below hb, h.below.trans (hb.mono h.below.size), owns_below h.row hb, h.apart, h.wf, h.cnt, h.recs, h.this⟩
/-- The number has been put behind the others. -/
theorem Called.push {w1 w2 w3 : World} {tp k c' : Nat} {t' : Tb} {lab : Nat → Option TLab} {P : TParts} {av : Value} {A' : Option Addr} {L : List ByteArray} {B : List Bool} {a : List Int} {s : ByteArray} {b : Bool} {x : Int} {o : Obj}
    (h : Called w1 w2 tp t' lab P av L B k a s b x) (hs : L[k]? = some s) (hbk : B[k]? = some b)
    (hap : Appended (w2.alloc o) w3 w1.heap.size 3 1 av (.slice A' (k + 1) c') (k + 1) (a.map (Value.int .i64) ++ [.int .i64 x])) :
    Once w1 w3 tp t' lab P (.slice A' (k + 1) c') L B (k + 1) (a ++ [x]) := by
  have hk : Keeps (fun b => av.ownBlock = some b) w2 w3 := keeps_pushN (w := w2) (o := o) hap.grown rfl rfl rfl rfl
  have hal : a.length = k := by have := h.row.1; simpa using this
  refine ⟨h.tab.keeps hk h.apart, h.below.trans (hk.below h.below.size fun b e => (h.row.lt b e).1), by rw [List.map_append]; exact hap.row, fun b e => ?_, h.wf, h.cnt, fun i u c hi h1 h2 h3 => ?_⟩
  · rcases hap.place b e with e2 | e2
    · exact h.apart b e2
    · exact h.tab.fresh (by subst e2; simp)
  · by_cases hik : i < k
    · obtain ⟨y, hy, hr⟩ := h.recs i u c hik h1 h2 h3
      exact ⟨y, by rw [List.getElem?_append_left (by omega)]; exact hy, hr⟩
    · obtain rfl : i = k := by omega
      rw [hs] at h1
      rw [hbk] at h2
      cases h1
      cases h2
      obtain ⟨y, hx, hr⟩ := h.this h3
      exact ⟨y, by rw [List.getElem?_append_right (by omega), hal]; simp [hx], hr⟩

theorem int_info : (Tryd.prog.info? 3).map (fun i => (i.zero, i.size, i.bytes)) = some (some (.int .i64 0), 1, 8) := by kernel_rfl
theorem one_cellN (w : World) (v : Value) (t : TypeId) : ∀ j u, [v][j]? = some u → (w.alloc (.cells #[v] t)).cell? ((⟨w.heap.size, 0, none⟩ : Addr).add j) = some u := by
  intro j x hj
  cases j with
  | zero =>
    simp at hj
    subst hj
    exact (Blk.new w #[v] t).cell 0 _ rfl
  | succ j => simp at hj
theorem one_oneN {v : Value} (h : v.oneCell' = true) : ∀ u ∈ [v], u.oneCell' = true := by
  intro x hx
  simp at hx
  subst hx
  exact h
theorem internO_ext (t : Tb) (s : ByteArray) (hw : Wf t) (hs : s.size ≤ 300) (hm : t.syms.length < 16384) :
    (∃ n : Nat, t.find s = some n ∧ validD s.data.toList = true ∧ internO t s = ((n : Int), 0, t)) ∨ (t.find s = none ∧ validD s.data.toList = true ∧ internO t s = ((t.syms.length : Int), 0, ⟨t.syms ++ [newSy s], upd t.find s t.syms.length⟩)) ∨ (t.find s = none ∧ validD s.data.toList = false ∧ internO t s = (0, 5, t)) := by
  cases hf : t.find s with
  | some n => exact .inl ⟨n, rfl, hw.valid s n hf, intern_found hf⟩
  | none =>
    cases hv : validD s.data.toList with
    | true => exact .inr (.inl ⟨rfl, rfl, intern_valid hf hs hm hv⟩)
    | false => exact .inr (.inr ⟨rfl, rfl, intern_invalid hf hv⟩)
end Go.Proofs.YtcdlfgggmigcnaaDoor.Nt
