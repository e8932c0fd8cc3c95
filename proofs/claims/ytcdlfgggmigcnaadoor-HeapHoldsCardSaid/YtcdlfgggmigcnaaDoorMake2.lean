/- The contracts of Vec and Text. -/
import Derived.Test.YtcdlfgggmigcnaaDoorMake
import Derived.Test.YtcdlfgggmigcnaaDoorRunes
namespace Go.Proofs.YtcdlfgggmigcnaaDoor.Make
set_option maxRecDepth 100000
open Go.RowKit
open Go.Proofs.YtcdlfgggmigcnaaDoor.Own Go.Proofs.YtcdlfgggmigcnaaDoor.Hp Go.Proofs.YtcdlfgggmigcnaaDoor.HeapOrd Go.Proofs.YtcdlfgggmigcnaaDoor.Rep Go.Proofs.YtcdlfgggmigcnaaDoor.Base Go.Proofs.YtcdlfgggmigcnaaDoor.Get Go.Proofs.YtcdlfgggmigcnaaDoor.Size Go.Proofs.YtcdlfgggmigcnaaDoor.Add Go.Proofs.YtcdlfgggmigcnaaDoor.Clone Go.Proofs.YtcdlfgggmigcnaaDoor.Strs

/-- What Vec returns. -/
def vecO (ob : Obs) (lim : Nat) (l : List Wd) : Wd × Int × Obs := if 65536 < l.length then ((0, 0), 4, ob) else addO ob lim (.vec l)

/-- An object whose header is the block laid last, with a row that was made before. -/
theorem newLab2 {w W2 : World} {base hp lim e n m : Nat} {size : Nat} {ob : Obs} {lab : Nat → Option Lab} {P : Parts} {rv : Value} {xs : List Value} {o : Obj} (h : HeapIs w base hp lim ob lab P) (hb : base ≤ w.heap.size) (hb2 : Below w.heap.size w W2)
    (ho : W2.ownsRow w.heap.size e size rv m xs) :
    NewLab (W2.alloc o) base n (lab2 W2.heap.size n rv) lab ∧ (∀ b, lab2 W2.heap.size n rv b ≠ none → w.heap.size ≤ b) ∧ (∀ b, rv.ownBlock = some b → lab2 W2.heap.size n rv b = some (.row n)) ∧ lab2 W2.heap.size n rv W2.heap.size = some (.obj n) := by
  have hlt : ∀ b, rv.ownBlock = some b → w.heap.size ≤ b ∧ b < W2.heap.size := ho.lt
  refine ⟨⟨fun b l hl => ?_, fun b l hl => ?_⟩, fun b hl => ?_, fun b hb' => ?_, by simp [lab2]⟩
  · unfold lab2 at hl
    split at hl
    · rename_i e
      subst e
      exact ⟨lab_none h hb2.size, Nat.le_trans hb hb2.size, by simp⟩
    · split at hl
      · rename_i e
        have := hlt b e
        exact ⟨lab_none h this.1, by omega, by simp; omega⟩
      · cases hl
  · unfold lab2 at hl
    split at hl
    · cases hl; rfl
    · split at hl
      · cases hl; rfl
      · cases hl
  · unfold lab2 at hl
    split at hl
    · rename_i e; subst e; exact hb2.size
    · split at hl
      · rename_i e; exact (hlt b e).1
      · exact absurd rfl hl
  · unfold lab2
    rw [if_neg (by have := hlt b hb'; omega), if_pos hb']

set_option maxHeartbeats 4000000 in
theorem vec_long {w : World} {base hp lim : Nat} {ob : Obs} {lab : Nat → Option Lab} {P : Parts} (h : HeapIs w base hp lim ob lab P) (A : Option Addr) (n c : Nat) (hn : 65536 < n) (hm : n ≤ 9223372036854775807) :
    Calls Tryd.prog 23 #[ptr hp, .slice A n c] w fun e w' => e = .returned (.tuple #[wd (0, 0), .int .i64 4]) ∧ Below w.heap.size w w' := by
  have hb1 : Below w.heap.size w (w.alloc (.cells #[.int .i64 0, .int .i64 0] 28)) := (Below.refl _ _).alloc (Nat.le_refl _) _
  have HV := Lib.hid (valid_any h _ hb1)
  have hd : decide ((65536 : Int) < n) = true := decide_eq_true (by omega)
  clear h
  go_enter Tryd.func23, Tryd.ntmps23
  go_wp2_with fail
  refine HV.out.mono ?_
  rintro e w1 ⟨rfl, rfl⟩
  go_wp2_with fail
  refine bodyPost_ret (v := .tuple #[wd (0, 0), .int .i64 4]) (by simp [results, Tryd.results23, go_sem]) rfl ⟨rfl, ?_⟩
  exact (Below.refl _ _).alloc (Nat.le_refl _) _
set_option maxHeartbeats 4000000 in
theorem vec_short {w : World} {base hp lim : Nat} {ob : Obs} {lab : Nat → Option Lab} {P : Parts} (h : HeapIs w base hp lim ob lab P) (hb : base ≤ w.heap.size) (A : Option Addr) (c : Nat) (l : List Wd) (hl : SlR w (.slice A l.length c) l.length (wcells l)) (hn : l.length ≤ 65536) :
    Calls Tryd.prog 23 #[ptr hp, .slice A l.length c] w fun e w' => e = .returned (.tuple #[wd (addO ob lim (.vec l)).1, .int .i64 (addO ob lim (.vec l)).2.1]) ∧ AddOk w w' base hp lim (addO ob lim (.vec l)).2.2 lab := by
  obtain ⟨W1, hW1⟩ : ∃ W1, W1 = w.alloc (.cells #[.int .i64 0, .int .i64 0] 28) := ⟨_, rfl⟩
  have hb1 : Below w.heap.size w W1 := by rw [hW1]; exact (Below.refl _ _).alloc (Nat.le_refl _) _
  have hr1 : Blk W1 w.heap.size #[.int .i64 0, .int .i64 0] 28 := by rw [hW1]; exact Blk.new _ _ _
  have HV := Lib.hid (valid_any h _ hb1)
  have HC := Lib.hid (cloneW_any _ _ _ W1 (hl.below hb1) (wcells_length l) (wcells_one l) (by omega))
  have HH := Lib.hid h
  have HB := Lib.hid hb
  have HB1 := Lib.hid hb1
  have HR1 := Lib.hid hr1
  have HW := Lib.hid hW1
  have hW := HW.out
  obtain ⟨R, hR⟩ : ∃ R, addO ob lim (.vec l) = R := ⟨_, rfl⟩
  rw [hR]
  have HRR := Lib.hid hR
  obtain ⟨n, hn0⟩ : ∃ n, l.length = n := ⟨_, rfl⟩
  rw [hn0] at HC hn ⊢
  have HN := Lib.hid hn0
  have hd : decide ((65536 : Int) < n) = false := decide_eq_false (by omega)
  rw [hW1] at HV HC
  clear h hb hb1 hr1 hl hW1 hW hR hn0
  go_enter Tryd.func23, Tryd.ntmps23
  go_wp2_with fail
  refine HV.out.mono ?_
  rintro e w1 ⟨rfl, rfl⟩
  go_wp2_with fail
  refine HC.out.mono ?_
  rintro e W2 ⟨⟨rv, rfl, hown⟩, hb2⟩
  rw [← HW.out] at hb2
  have hb3 := HB1.out.trans (hb2.mono HB1.out.size)
  have hown1 : W2.ownsRow w.heap.size 28 2 rv l.length (wcells l) := by rw [HN.out]; exact owns_base' hown (by simp)
  obtain ⟨n1, n2, n3, n4⟩ := newLab2 (n := freeTo ob lim) (o := .cells #[rv] 121) HH.out HB.out hb3 hown1
  have hb4 := hb3.alloc hb3.size (.cells #[rv] 121)
  have hA := add_any (HH.out.below hb4) n1 (v := .iface 119 (ptr W2.heap.size)) (o := .vec l) ⟨_, rv, rfl, n4, Blk.new _ _ _, SlAt.of_owns (owns_below hown1 ((Below.refl _ _).alloc (Nat.le_refl _) _)) n3⟩ (show l.length ≤ 65536 by rw [HN.out]; exact hn) (Nat.le_trans HB.out hb4.size)
  have hE := fun w2 ob' => make_end (w2 := w2) (ob' := ob') HH.out hb4 n1 n2 (r := w.heap.size) (Nat.le_refl _) (by
    unfold lab2
    have h1 := HR1.out.lt
    have h2 := hb2.size
    rw [if_neg (by omega), if_neg fun e => by have := (hown.lt w.heap.size e).1; simp at this; omega]) ((HR1.out.below hb2).alloc _)
  rw [HRR.out] at hA
  have HA := Lib.hid hA
  have HE := Lib.hid hE
  obtain ⟨A', c', rfl⟩ := slice_of' hown
  clear hA hE n1 n2 n3 n4 hown1 hown hb2 hb3 hb4
  go_wp2_with fail
  refine HA.out.mono ?_
  rintro e w2 ⟨rfl, hok⟩
  obtain ⟨hB2, hfin⟩ := HE.out w2 _ hok
  obtain ⟨b0, b1, e0, e1⟩ := hB2.two
  have HF := Lib.hid hfin
  clear hok hB2 hfin
  go_wp2_with fail
  refine bodyPost_ret (v := .tuple #[wd R.1, .int .i64 R.2.1]) (by simp [results, Tryd.results23, go_sem, b0, b1]) rfl ⟨rfl, HF.out _ _⟩
theorem addOk_below {w w' : World} {base hp lim : Nat} {ob : Obs} {lab : Nat → Option Lab} {P : Parts} (h : HeapIs w base hp lim ob lab P) (hb : Below w.heap.size w w') : AddOk w w' base hp lim ob lab := ⟨lab, P, h.below hb, .below hb⟩
theorem vec_any {w : World} {base hp lim : Nat} {ob : Obs} {lab : Nat → Option Lab} {P : Parts} (h : HeapIs w base hp lim ob lab P) (hb : base ≤ w.heap.size) (v : Value) (l : List Wd) (hl : SlR w v l.length (wcells l)) (hm : l.length ≤ 9223372036854775807) :
    Calls Tryd.prog 23 #[ptr hp, v] w fun e w' => e = .returned (.tuple #[wd (vecO ob lim l).1, .int .i64 (vecO ob lim l).2.1]) ∧ AddOk w w' base hp lim (vecO ob lim l).2.2 lab := by
  have hl' := hl
  obtain ⟨A, c, rfl, _⟩ := hl'
  unfold vecO
  by_cases hn : 65536 < l.length
  · rw [if_pos hn]
    exact (vec_long h A l.length c hn hm).mono fun e w' ⟨he, hbw⟩ => ⟨he, addOk_below h hbw⟩
  · rw [if_neg hn]
    exact vec_short h hb A c l hl (by omega)
end Go.Proofs.YtcdlfgggmigcnaaDoor.Make
