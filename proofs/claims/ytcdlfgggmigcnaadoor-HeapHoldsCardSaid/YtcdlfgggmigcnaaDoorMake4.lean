/- The contract of Code. -/
import Derived.Test.YtcdlfgggmigcnaaDoorMake2
import Derived.Test.YtcdlfgggmigcnaaDoorCloneC
namespace Go.Proofs.YtcdlfgggmigcnaaDoor.Make
set_option maxRecDepth 100000
open Go.RowKit
open Go.Proofs.YtcdlfgggmigcnaaDoor.Own Go.Proofs.YtcdlfgggmigcnaaDoor.Hp Go.Proofs.YtcdlfgggmigcnaaDoor.HeapOrd Go.Proofs.YtcdlfgggmigcnaaDoor.Rep Go.Proofs.YtcdlfgggmigcnaaDoor.Base Go.Proofs.YtcdlfgggmigcnaaDoor.Get Go.Proofs.YtcdlfgggmigcnaaDoor.Size Go.Proofs.YtcdlfgggmigcnaaDoor.Add Go.Proofs.YtcdlfgggmigcnaaDoor.Clone Go.Proofs.YtcdlfgggmigcnaaDoor.CloneC

/-- What Code returns. -/
def codeO (ob : Obs) (lim : Nat) (p q z : Int) (b : List Int) (l : List Wd) : Wd × Int × Obs := if 65536 < b.length ∨ 65536 < l.length then ((0, 0), 4, ob) else addO ob lim (.code p q z b l)
/-- Code by value. -/
abbrev codeV (p q z : Int) (bv lv : Value) : Value := .agg #[.int .i64 p, .int .i64 q, .int .i64 z, bv, lv]

/-- Labels for the blocks of a code: its own, the row of its words, that of its bytes. -/
def lab3 (g n : Nat) (rb rl : Value) (b : Nat) : Option Lab := if b = g then some (.obj n) else if rl.ownBlock = some b then some (.row n) else if rb.ownBlock = some b then some (.bytes n) else none
theorem newLab3 {w W2 : World} {base hp lim n m m2 : Nat} {e e2 : TypeId} {size size2 : Nat} {ob : Obs} {lab : Nat → Option Lab} {P : Parts} {rb rl : Value} {xs ys : List Value} {o : Obj} (h : HeapIs w base hp lim ob lab P) (hb : base ≤ w.heap.size) (hb2 : Below w.heap.size w W2)
    (ho : W2.ownsRow w.heap.size e size rb m xs) (ho2 : W2.ownsRow w.heap.size e2 size2 rl m2 ys) (hd : ∀ b, rb.ownBlock = some b → rl.ownBlock ≠ some b) :
    NewLab (W2.alloc o) base n (lab3 W2.heap.size n rb rl) lab ∧ (∀ b, lab3 W2.heap.size n rb rl b ≠ none → w.heap.size ≤ b) ∧ (∀ b, rb.ownBlock = some b → lab3 W2.heap.size n rb rl b = some (.bytes n)) ∧ (∀ b, rl.ownBlock = some b → lab3 W2.heap.size n rb rl b = some (.row n)) ∧ lab3 W2.heap.size n rb rl W2.heap.size = some (.obj n) := by
  have hlt : ∀ b, rb.ownBlock = some b → w.heap.size ≤ b ∧ b < W2.heap.size := ho.lt
  have hlt2 : ∀ b, rl.ownBlock = some b → w.heap.size ≤ b ∧ b < W2.heap.size := ho2.lt
  refine ⟨⟨fun b l hl => ?_, fun b l hl => ?_⟩, fun b hl => ?_, fun b hb' => ?_, fun b hb' => ?_, by simp [lab3]⟩
  · unfold lab3 at hl
    split at hl
    · rename_i e
      subst e
      exact ⟨lab_none h hb2.size, Nat.le_trans hb hb2.size, by simp⟩
    · split at hl
      · rename_i e
        have := hlt2 b e
        exact ⟨lab_none h this.1, by omega, by simp; omega⟩
      · split at hl
        · rename_i e
          have := hlt b e
          exact ⟨lab_none h this.1, by omega, by simp; omega⟩
        · cases hl
  · unfold lab3 at hl
    split at hl
    · cases hl; rfl
    · split at hl
      · cases hl; rfl
      · split at hl
        · cases hl; rfl
        · cases hl
  · unfold lab3 at hl
    split at hl
    · rename_i e; subst e; exact hb2.size
    · split at hl
      · rename_i e; exact (hlt2 b e).1
      · split at hl
        · rename_i e; exact (hlt b e).1
        · exact absurd rfl hl
  · unfold lab3
    rw [if_neg (by have := hlt b hb'; omega), if_neg (hd b hb'), if_pos hb']
  · unfold lab3
    rw [if_neg (by have := hlt2 b hb'; omega), if_pos hb']

set_option maxHeartbeats 4000000 in
theorem code_long {w : World} {base hp lim : Nat} {ob : Obs} {lab : Nat → Option Lab} {P : Parts} (h : HeapIs w base hp lim ob lab P) (p q z : Int) (A A2 : Option Addr) (nb cb nl cl : Nat) (hn : 65536 < nb ∨ 65536 < nl) (m1 : nb ≤ 9223372036854775807) (m2 : nl ≤ 9223372036854775807) :
    Calls Tryd.prog 36 #[ptr hp, codeV p q z (.slice A nb cb) (.slice A2 nl cl)] w fun e w' => e = .returned (.tuple #[wd (0, 0), .int .i64 4]) ∧ Below w.heap.size w w' := by
  have hb1 : Below w.heap.size w ((w.alloc (.cells #[.int .i64 p, .int .i64 q, .int .i64 z, .slice A nb cb, .slice A2 nl cl] 52)).alloc (.cells #[.int .i64 0, .int .i64 0] 28)) := ((Below.refl _ _).alloc (Nat.le_refl _) _).alloc (by simp) _
  have HV := Lib.hid (valid_any h _ hb1)
  clear h
  by_cases h1 : 65536 < nb
  · have hd : decide ((65536 : Int) < nb) = true := decide_eq_true (by omega)
    go_enter Tryd.func36, Tryd.ntmps36
    go_wp2_with fail
    refine HV.out.mono ?_
    rintro e w1 ⟨rfl, rfl⟩
    go_wp2_with fail
    refine bodyPost_ret (v := .tuple #[wd (0, 0), .int .i64 4]) (by simp [results, Tryd.results36, go_sem]) rfl ⟨rfl, hb1⟩
  · have hd : decide ((65536 : Int) < nb) = false := decide_eq_false (by omega)
    have hd2 : decide ((65536 : Int) < nl) = true := decide_eq_true (by omega)
    go_enter Tryd.func36, Tryd.ntmps36
    go_wp2_with fail
    refine HV.out.mono ?_
    rintro e w1 ⟨rfl, rfl⟩
    go_wp2_with fail
    refine bodyPost_ret (v := .tuple #[wd (0, 0), .int .i64 4]) (by simp [results, Tryd.results36, go_sem]) rfl ⟨rfl, hb1⟩

set_option maxHeartbeats 4000000 in
theorem code_short {w : World} {base hp lim : Nat} {ob : Obs} {lab : Nat → Option Lab} {P : Parts} (h : HeapIs w base hp lim ob lab P) (hb : base ≤ w.heap.size) (p q z : Int) (A A2 : Option Addr) (cb cl : Nat) (b : List Int) (l : List Wd)
    (hB : SlR w (.slice A b.length cb) b.length (bcells b)) (hl : SlR w (.slice A2 l.length cl) l.length (wcells l)) (hn1 : b.length ≤ 65536) (hn2 : l.length ≤ 65536) :
    Calls Tryd.prog 36 #[ptr hp, codeV p q z (.slice A b.length cb) (.slice A2 l.length cl)] w fun e w' => e = .returned (.tuple #[wd (addO ob lim (.code p q z b l)).1, .int .i64 (addO ob lim (.code p q z b l)).2.1]) ∧ AddOk w w' base hp lim (addO ob lim (.code p q z b l)).2.2 lab := by
  obtain ⟨W1, hW1⟩ : ∃ W1, W1 = (w.alloc (.cells #[.int .i64 p, .int .i64 q, .int .i64 z, .slice A b.length cb, .slice A2 l.length cl] 52)).alloc (.cells #[.int .i64 0, .int .i64 0] 28) := ⟨_, rfl⟩
  have hb1 : Below w.heap.size w W1 := by rw [hW1]; exact ((Below.refl _ _).alloc (Nat.le_refl _) _).alloc (by simp) _
  have hr1 : Blk W1 (w.heap.size + 1) #[.int .i64 0, .int .i64 0] 28 := by rw [hW1]; exact (two_new (Below.refl _ _)).2
  have HV := Lib.hid (valid_any h _ hb1)
  have HC := Lib.hid (clone_core p q z _ _ _ _ _ _ W1 (hB.below hb1) (hl.below hb1) (by simp [bcells]) (wcells_length l) (bcells_one b) (wcells_one l) hn1 hn2)
  have HH := Lib.hid h
  have HB := Lib.hid hb
  have HB1 := Lib.hid hb1
  have HR1 := Lib.hid hr1
  have HW := Lib.hid hW1
  obtain ⟨R, hR⟩ : ∃ R, addO ob lim (.code p q z b l) = R := ⟨_, rfl⟩
  rw [hR]
  have HRR := Lib.hid hR
  have HN1 := Lib.hid hn1
  have HN2 := Lib.hid hn2
  obtain ⟨nb, hnb⟩ : ∃ n, b.length = n := ⟨_, rfl⟩
  obtain ⟨nl, hnl⟩ : ∃ n, l.length = n := ⟨_, rfl⟩
  rw [hnb, hnl] at HC hW1 HW ⊢
  rw [hnb] at hn1
  rw [hnl] at hn2
  have HNB := Lib.hid hnb
  have HNL := Lib.hid hnl
  have hd : decide ((65536 : Int) < nb) = false := decide_eq_false (by omega)
  have hd2 : decide ((65536 : Int) < nl) = false := decide_eq_false (by omega)
  rw [hW1] at HV HC
  clear h hb hb1 hr1 hl hB hW1 hR hnb hnl
  go_enter Tryd.func36, Tryd.ntmps36
  go_wp2_with fail
  refine HV.out.mono ?_
  rintro e w1 ⟨rfl, rfl⟩
  go_wp2_with fail
  refine HC.out.mono ?_
  rintro e W2 ⟨⟨rb, rl, rfl, hob, hol, hdis⟩, hb2⟩
  rw [← HW.out] at hb2 hob hol
  have hb3 := HB1.out.trans (hb2.mono HB1.out.size)
  have hob1 : W2.ownsRow w.heap.size 5 1 rb b.length (bcells b) := by rw [HNB.out]; exact owns_base' hob HB1.out.size
  have hol1 : W2.ownsRow w.heap.size 28 2 rl l.length (wcells l) := by rw [HNL.out]; exact owns_base' hol HB1.out.size
  obtain ⟨n1, n2, n3, n4, n5⟩ := newLab3 (n := freeTo ob lim) (o := .cells #[.int .i64 p, .int .i64 q, .int .i64 z, rb, rl] 135) HH.out HB.out hb3 hob1 hol1 hdis
  have hb4 := hb3.alloc hb3.size (.cells #[.int .i64 p, .int .i64 q, .int .i64 z, rb, rl] 135)
  have hA := add_any (HH.out.below hb4) n1 (v := .iface 132 (ptr W2.heap.size)) (o := .code p q z b l)
    ⟨_, rb, rl, rfl, n5, Blk.new _ _ _, SlAt.of_owns (owns_below hob1 ((Below.refl _ _).alloc (Nat.le_refl _) _)) n3, SlAt.of_owns (owns_below hol1 ((Below.refl _ _).alloc (Nat.le_refl _) _)) n4⟩ ⟨HN1.out, HN2.out⟩ (Nat.le_trans HB.out hb4.size)
  have hE := fun w2 ob' => make_end (w2 := w2) (ob' := ob') HH.out hb4 n1 n2 (r := w.heap.size + 1) (by omega) (by
    unfold lab3
    have h1 := HR1.out.lt
    have h2 := hb2.size
    rw [if_neg (by omega), if_neg fun e => by have := (hol.lt _ e).1; omega, if_neg fun e => by have := (hob.lt _ e).1; omega]) ((HR1.out.below hb2).alloc _)
  rw [HRR.out] at hA
  have HA := Lib.hid hA
  have HE := Lib.hid hE
  obtain ⟨A', c', rfl⟩ := slice_of' hob
  obtain ⟨A2', c2', rfl⟩ := slice_of' hol
  clear hA hE n1 n2 n3 n4 n5 hob1 hol1 hob hol hdis hb2 hb3 hb4
  go_wp2_with fail
  refine HA.out.mono ?_
  rintro e w2 ⟨rfl, hok⟩
  obtain ⟨hB2, hfin⟩ := HE.out w2 _ hok
  obtain ⟨b0, b1, e0, e1⟩ := hB2.two
  have HF := Lib.hid hfin
  clear hok hB2 hfin
  go_wp2_with fail
  refine bodyPost_ret (v := .tuple #[wd R.1, .int .i64 R.2.1]) (by simp [results, Tryd.results36, go_sem, b0, b1]) rfl ⟨rfl, HF.out _ _⟩
theorem code_any {w : World} {base hp lim : Nat} {ob : Obs} {lab : Nat → Option Lab} {P : Parts} (h : HeapIs w base hp lim ob lab P) (hb : base ≤ w.heap.size) (p q z : Int) (bv lv : Value) (b : List Int) (l : List Wd) (hB : SlR w bv b.length (bcells b)) (hl : SlR w lv l.length (wcells l)) (m1 : b.length ≤ 9223372036854775807) (m2 : l.length ≤ 9223372036854775807) :
    Calls Tryd.prog 36 #[ptr hp, codeV p q z bv lv] w fun e w' => e = .returned (.tuple #[wd (codeO ob lim p q z b l).1, .int .i64 (codeO ob lim p q z b l).2.1]) ∧ AddOk w w' base hp lim (codeO ob lim p q z b l).2.2 lab := by
  have hB' := hB
  have hl' := hl
  obtain ⟨A, c, rfl, _⟩ := hB'
  obtain ⟨A2, c2, rfl, _⟩ := hl'
  unfold codeO
  by_cases hn : 65536 < b.length ∨ 65536 < l.length
  · rw [if_pos hn]
    exact (code_long h p q z A A2 b.length c l.length c2 hn m1 m2).mono fun e w' ⟨he, hbw⟩ => ⟨he, addOk_below h hbw⟩
  · rw [if_neg hn]
    exact code_short h hb p q z A A2 c c2 b l hB hl (by omega) (by omega)
end Go.Proofs.YtcdlfgggmigcnaaDoor.Make
