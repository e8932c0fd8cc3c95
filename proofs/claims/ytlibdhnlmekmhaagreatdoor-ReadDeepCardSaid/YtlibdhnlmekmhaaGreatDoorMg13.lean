/- The contracts of Vec and Text. | The contract of Text. | Plain mathematics of tables of spans: the value that a binary search over ascending spans finds is the value that a walk from the first span on finds. | The contracts of runes.find and its closure. -/
import Derived.Test.YtlibdhnlmekmhaaGreatDoorRows
import Derived.WalkKit
import Derived.WalkSpells
import Derived.WalkLawsBesides
import Derived.RegionTactic
import Derived.BigQuiet
import Derived.Deep.QuietTactic
import Derived.Shelf.SlSorted.Search
import Derived.Lib.Hide
import Derived.Test.YtlibdhnlmekmhaaGreatDoorMg03
import Derived.Test.YtlibdhnlmekmhaaGreatDoorMg04
import Derived.Test.YtlibdhnlmekmhaaGreatDoorMg12
/- The contracts of Vec and Text. -/
section
namespace Go.Proofs.YtlibdhnlmekmhaaGreatDoor.Make
set_option maxRecDepth 100000
open Go.RowKit
open Go.Proofs.YtlibdhnlmekmhaaGreatDoor.Own Go.Proofs.YtlibdhnlmekmhaaGreatDoor.Hp Go.Proofs.YtlibdhnlmekmhaaGreatDoor.HeapOrd Go.Proofs.YtlibdhnlmekmhaaGreatDoor.Rep Go.Proofs.YtlibdhnlmekmhaaGreatDoor.Base Go.Proofs.YtlibdhnlmekmhaaGreatDoor.Get Go.Proofs.YtlibdhnlmekmhaaGreatDoor.Size Go.Proofs.YtlibdhnlmekmhaaGreatDoor.Add Go.Proofs.YtlibdhnlmekmhaaGreatDoor.Clone Go.Proofs.YtlibdhnlmekmhaaGreatDoor.Strs

/-- What Vec returns. -/
def vecO (ob : Obs) (lim : Nat) (l : List Wd) : Wd × Int × Obs := if 65536 < l.length then ((0, 0), 4, ob) else addO ob lim (.vec l)

/-- An object whose header is the block laid last, with a row that was made before. -/
theorem newLab2 {w W2 : World} {base hp lim e n m : Nat} {size : Nat} {ob : Obs} {lab : Nat → Option Lab} {P : Parts} {rv : Value} {xs : List Value} {o : Obj} (h : HeapIs w base hp lim ob lab P) (hb : base ≤ w.heap.size) (hb2 : Below w.heap.size w W2)
    (ho : W2.ownsRow w.heap.size e size rv m xs) :
    NewLab (W2.alloc o) base n (lab2 W2.heap.size n rv) lab ∧ (∀ b, lab2 W2.heap.size n rv b ≠ none → w.heap.size ≤ b) ∧ (∀ b, rv.ownBlock = some b → lab2 W2.heap.size n rv b = some (.row n)) ∧ lab2 W2.heap.size n rv W2.heap.size = some (.obj n) := by
  have hlt : ∀ b, rv.ownBlock = some b → w.heap.size ≤ b ∧ b < W2.heap.size := ho.lt
  refine ⟨⟨fun b l hl => ?_, fun b l hl => ?_⟩, fun b hl => ?_, fun b hb' => ?_, by simp [lab2]⟩
  · unfold lab2 at hl
    split at hl
    · rename_i e
      subst e
      exact ⟨lab_none h hb2.size, Nat.le_trans hb hb2.size, by simp⟩
    · split at hl
      · rename_i e
        have := hlt b e
        exact ⟨lab_none h this.1, by omega, by simp; omega⟩
      · cases hl
  · unfold lab2 at hl
    split at hl
    · cases hl; rfl
    · split at hl
      · cases hl; rfl
      · cases hl
  · unfold lab2 at hl
    split at hl
    · rename_i e; subst e; exact hb2.size
    · split at hl
      · rename_i e; exact (hlt b e).1
      · exact absurd rfl hl
  · unfold lab2
    rw [if_neg (by have := hlt b hb'; omega), if_pos hb']

set_option maxHeartbeats 4000000 in
theorem vec_long {w : World} {base hp lim : Nat} {ob : Obs} {lab : Nat → Option Lab} {P : Parts} (h : HeapIs w base hp lim ob lab P) (A : Option Addr) (n c : Nat) (hn : 65536 < n) (hm : n ≤ 9223372036854775807) :
    Calls Tryz.prog 167 #[ptr hp, .slice A n c] w fun e w' => e = .returned (.tuple #[wd (0, 0), .int .i64 4]) ∧ Below w.heap.size w w' := by
  have hb1 : Below w.heap.size w (w.alloc (.cells #[.int .i64 0, .int .i64 0] 28)) := (Below.refl _ _).alloc (Nat.le_refl _) _
  have HV := Lib.hid (valid_any h _ hb1)
  have hd : decide ((65536 : Int) < n) = true := decide_eq_true (by omega)
  clear h
  go_enter Tryz.func167, Tryz.ntmps167
  go_wp2_with fail
  refine HV.out.mono ?_
  rintro e w1 ⟨rfl, rfl⟩
  go_wp2_with fail
  refine bodyPost_ret (v := .tuple #[wd (0, 0), .int .i64 4]) (by simp [results, Tryz.results167, go_sem]) rfl ⟨rfl, ?_⟩
  exact (Below.refl _ _).alloc (Nat.le_refl _) _
set_option maxHeartbeats 4000000 in
theorem vec_short {w : World} {base hp lim : Nat} {ob : Obs} {lab : Nat → Option Lab} {P : Parts} (h : HeapIs w base hp lim ob lab P) (hb : base ≤ w.heap.size) (A : Option Addr) (c : Nat) (l : List Wd) (hl : SlR w (.slice A l.length c) l.length (wcells l)) (hn : l.length ≤ 65536) :
    Calls Tryz.prog 167 #[ptr hp, .slice A l.length c] w fun e w' => e = .returned (.tuple #[wd (addO ob lim (.vec l)).1, .int .i64 (addO ob lim (.vec l)).2.1]) ∧ AddOk w w' base hp lim (addO ob lim (.vec l)).2.2 lab := by
  obtain ⟨W1, hW1⟩ : ∃ W1, W1 = w.alloc (.cells #[.int .i64 0, .int .i64 0] 28) := ⟨_, rfl⟩
  have hb1 : Below w.heap.size w W1 := by rw [hW1]; exact (Below.refl _ _).alloc (Nat.le_refl _) _
  have hr1 : Blk W1 w.heap.size #[.int .i64 0, .int .i64 0] 28 := by rw [hW1]; exact Blk.new _ _ _
  have HV := Lib.hid (valid_any h _ hb1)
  have HC := Lib.hid (cloneW_any _ _ _ W1 (hl.below hb1) (wcells_length l) (wcells_one l) (by omega))
  have HH := Lib.hid h
  have HB := Lib.hid hb
  have HB1 := Lib.hid hb1
  have HR1 := Lib.hid hr1
  have HW := Lib.hid hW1
  have hW := HW.out
  obtain ⟨R, hR⟩ : ∃ R, addO ob lim (.vec l) = R := ⟨_, rfl⟩
  rw [hR]
  have HRR := Lib.hid hR
  obtain ⟨n, hn0⟩ : ∃ n, l.length = n := ⟨_, rfl⟩
  rw [hn0] at HC hn ⊢
  have HN := Lib.hid hn0
  have hd : decide ((65536 : Int) < n) = false := decide_eq_false (by omega)
  rw [hW1] at HV HC
  clear h hb hb1 hr1 hl hW1 hW hR hn0
  go_enter Tryz.func167, Tryz.ntmps167
  go_wp2_with fail
  refine HV.out.mono ?_
  rintro e w1 ⟨rfl, rfl⟩
  go_wp2_with fail
  refine HC.out.mono ?_
  rintro e W2 ⟨⟨rv, rfl, hown⟩, hb2⟩
  rw [← HW.out] at hb2
  have hb3 := HB1.out.trans (hb2.mono HB1.out.size)
  have hown1 : W2.ownsRow w.heap.size 28 2 rv l.length (wcells l) := by rw [HN.out]; exact owns_base' hown (by simp)
  obtain ⟨n1, n2, n3, n4⟩ := newLab2 (n := freeTo ob lim) (o := .cells #[rv] 193) HH.out HB.out hb3 hown1
  have hb4 := hb3.alloc hb3.size (.cells #[rv] 193)
  have hA := add_any (HH.out.below hb4) n1 (v := .iface 189 (ptr W2.heap.size)) (o := .vec l) ⟨_, rv, rfl, n4, Blk.new _ _ _, SlAt.of_owns (owns_below hown1 ((Below.refl _ _).alloc (Nat.le_refl _) _)) n3⟩ (show l.length ≤ 65536 by rw [HN.out]; exact hn) (Nat.le_trans HB.out hb4.size)
  have hE := fun w2 ob' => make_end (w2 := w2) (ob' := ob') HH.out hb4 n1 n2 (r := w.heap.size) (Nat.le_refl _) (by
    unfold lab2
    have h1 := HR1.out.lt
    have h2 := hb2.size
    rw [if_neg (by omega), if_neg fun e => by have := (hown.lt w.heap.size e).1; simp at this; omega]) ((HR1.out.below hb2).alloc _)
  rw [HRR.out] at hA
  have HA := Lib.hid hA
  have HE := Lib.hid hE
  obtain ⟨A', c', rfl⟩ := slice_of' hown
  clear hA hE n1 n2 n3 n4 hown1 hown hb2 hb3 hb4
  go_wp2_with fail
  refine HA.out.mono ?_
  rintro e w2 ⟨rfl, hok⟩
  obtain ⟨hB2, hfin⟩ := HE.out w2 _ hok
  obtain ⟨b0, b1, e0, e1⟩ := hB2.two
  have HF := Lib.hid hfin
  clear hok hB2 hfin
  go_wp2_with fail
  refine bodyPost_ret (v := .tuple #[wd R.1, .int .i64 R.2.1]) (by simp [results, Tryz.results167, go_sem, b0, b1]) rfl ⟨rfl, HF.out _ _⟩
theorem addOk_below {w w' : World} {base hp lim : Nat} {ob : Obs} {lab : Nat → Option Lab} {P : Parts} (h : HeapIs w base hp lim ob lab P) (hb : Below w.heap.size w w') : AddOk w w' base hp lim ob lab := ⟨lab, P, h.below hb, .below hb⟩
theorem vec_any {w : World} {base hp lim : Nat} {ob : Obs} {lab : Nat → Option Lab} {P : Parts} (h : HeapIs w base hp lim ob lab P) (hb : base ≤ w.heap.size) (v : Value) (l : List Wd) (hl : SlR w v l.length (wcells l)) (hm : l.length ≤ 9223372036854775807) :
    Calls Tryz.prog 167 #[ptr hp, v] w fun e w' => e = .returned (.tuple #[wd (vecO ob lim l).1, .int .i64 (vecO ob lim l).2.1]) ∧ AddOk w w' base hp lim (vecO ob lim l).2.2 lab := by
  have hl' := hl
  obtain ⟨A, c, rfl, _⟩ := hl'
  unfold vecO
  by_cases hn : 65536 < l.length
  · rw [if_pos hn]
    exact (vec_long h A l.length c hn hm).mono fun e w' ⟨he, hbw⟩ => ⟨he, addOk_below h hbw⟩
  · rw [if_neg hn]
    exact vec_short h hb A c l hl (by omega)
end Go.Proofs.YtlibdhnlmekmhaaGreatDoor.Make
end

/- The contract of Text. -/
section
namespace Go.Proofs.YtlibdhnlmekmhaaGreatDoor.Make
set_option maxRecDepth 100000
open Go.RowKit
open Go.Proofs.YtlibdhnlmekmhaaGreatDoor.Own Go.Proofs.YtlibdhnlmekmhaaGreatDoor.Hp Go.Proofs.YtlibdhnlmekmhaaGreatDoor.HeapOrd Go.Proofs.YtlibdhnlmekmhaaGreatDoor.Rep Go.Proofs.YtlibdhnlmekmhaaGreatDoor.Base Go.Proofs.YtlibdhnlmekmhaaGreatDoor.Get Go.Proofs.YtlibdhnlmekmhaaGreatDoor.Size Go.Proofs.YtlibdhnlmekmhaaGreatDoor.Add Go.Proofs.YtlibdhnlmekmhaaGreatDoor.Clone Go.Proofs.YtlibdhnlmekmhaaGreatDoor.Strs

/-- What Text returns. -/
def textO (ob : Obs) (lim : Nat) (s : ByteArray) : Wd × Int × Obs :=
  if Lib.validD s.data.toList = false then ((0, 0), 5, ob) else if 65536 < lenL s.data.toList then ((0, 0), 4, ob) else addO ob lim (.text s (lenL s.data.toList))

set_option maxHeartbeats 4000000 in
theorem text_bad {w : World} {base hp lim : Nat} {ob : Obs} {lab : Nat → Option Lab} {P : Parts} (h : HeapIs w base hp lim ob lab P) (s : ByteArray) (hs : s.size ≤ 4611686018427387904) (hT : Tabs w) (hv : Lib.validD s.data.toList = false) :
    Calls Tryz.prog 174 #[ptr hp, .string s] w fun e w' => e = .returned (.tuple #[wd (0, 0), .int .i64 5]) ∧ Below w.heap.size w w' := by
  have hb1 : Below w.heap.size w (w.alloc (.cells #[.int .i64 0, .int .i64 0] 28)) := (Below.refl _ _).alloc (Nat.le_refl _) _
  have HV := Lib.hid (Get.valid_any h _ hb1)
  have hL := Strs.valid_any s _ (by omega) (hT.below hb1)
  rw [hv] at hL
  have HL := Lib.hid hL
  clear h hL hT hv
  go_enter Tryz.func174, Tryz.ntmps174
  go_wp2_with fail
  refine HV.out.mono ?_
  rintro e w1 ⟨rfl, rfl⟩
  go_wp2_with fail
  refine HL.out.mono ?_
  rintro e w2 ⟨rfl, hb2⟩
  obtain ⟨b0, b1, e0, e1⟩ := (one_new hb2).two
  go_wp2_with fail
  refine bodyPost_ret (v := .tuple #[wd (0, 0), .int .i64 5]) (by simp [results, Tryz.results174, go_sem, b0, b1]) rfl ⟨rfl, ?_⟩
  exact ((hb1.trans (hb2.mono hb1.size)).setCell (by simp) _).setCell (by simp) _
set_option maxHeartbeats 4000000 in
theorem text_long {w : World} {base hp lim : Nat} {ob : Obs} {lab : Nat → Option Lab} {P : Parts} (h : HeapIs w base hp lim ob lab P) (s : ByteArray) (hs : s.size ≤ 4611686018427387904) (hT : Tabs w) (hv : Lib.validD s.data.toList = true) (n : Nat) (hn : lenL s.data.toList = n) (hlong : 65536 < n) :
    Calls Tryz.prog 174 #[ptr hp, .string s] w fun e w' => e = .returned (.tuple #[wd (0, 0), .int .i64 4]) ∧ Below w.heap.size w w' := by
  have hb1 : Below w.heap.size w (w.alloc (.cells #[.int .i64 0, .int .i64 0] 28)) := (Below.refl _ _).alloc (Nat.le_refl _) _
  have HV := Lib.hid (Get.valid_any h _ hb1)
  have hL := Strs.valid_any s _ (by omega) (hT.below hb1)
  rw [hv] at hL
  have HL := Lib.hid hL
  have hN := fun w2 (hb : Below w.heap.size w w2) => len_any s w2 (by omega) (hT.below hb)
  simp only [hn] at hN
  have HN := Lib.hid hN
  have hd : decide ((65536 : Int) < n) = true := decide_eq_true (by omega)
  clear h hL hT hv hN hn
  go_enter Tryz.func174, Tryz.ntmps174
  go_wp2_with fail
  refine HV.out.mono ?_
  rintro e w1 ⟨rfl, rfl⟩
  go_wp2_with fail
  refine HL.out.mono ?_
  rintro e w2 ⟨rfl, hb2⟩
  have hb3 := hb1.trans (hb2.mono hb1.size)
  have hB2 := one_new hb2
  go_wp2_with fail
  refine (HN.out _ hb3).mono ?_
  rintro e w3 ⟨rfl, hb4⟩
  obtain ⟨b0, b1, e0, e1⟩ := (hB2.below hb4).two
  clear hB2
  go_wp2_with fail
  refine bodyPost_ret (v := .tuple #[wd (0, 0), .int .i64 4]) (by simp [results, Tryz.results174, go_sem, b0, b1]) rfl ⟨rfl, ?_⟩
  exact ((hb3.trans (hb4.mono hb3.size)).setCell (by simp) _).setCell (by simp) _
set_option maxHeartbeats 4000000 in
theorem text_good {w : World} {base hp lim : Nat} {ob : Obs} {lab : Nat → Option Lab} {P : Parts} (h : HeapIs w base hp lim ob lab P) (hb : base ≤ w.heap.size) (s : ByteArray) (hs : s.size ≤ 4611686018427387904) (hT : Tabs w) (hv : Lib.validD s.data.toList = true) (n : Nat) (hn : lenL s.data.toList = n) (hshort : n ≤ 65536) :
    Calls Tryz.prog 174 #[ptr hp, .string s] w fun e w' => e = .returned (.tuple #[wd (addO ob lim (.text s n)).1, .int .i64 (addO ob lim (.text s n)).2.1]) ∧ AddOk w w' base hp lim (addO ob lim (.text s n)).2.2 lab := by
  have hb1 : Below w.heap.size w (w.alloc (.cells #[.int .i64 0, .int .i64 0] 28)) := (Below.refl _ _).alloc (Nat.le_refl _) _
  have HV := Lib.hid (Get.valid_any h _ hb1)
  have hL := Strs.valid_any s _ (by omega) (hT.below hb1)
  rw [hv] at hL
  have HL := Lib.hid hL
  have hN := fun w2 (hb : Below w.heap.size w w2) => len_any s w2 (by omega) (hT.below hb)
  simp only [hn] at hN
  have HN := Lib.hid hN
  have hd : decide ((65536 : Int) < n) = false := decide_eq_false (by omega)
  obtain ⟨R, hR⟩ : ∃ R, addO ob lim (.text s n) = R := ⟨_, rfl⟩
  rw [hR]
  have HRR := Lib.hid hR
  have HH := Lib.hid h
  have HB := Lib.hid hb
  clear h hL hT hv hN hn hR hb
  go_enter Tryz.func174, Tryz.ntmps174
  go_wp2_with fail
  refine HV.out.mono ?_
  rintro e w1 ⟨rfl, rfl⟩
  go_wp2_with fail
  refine HL.out.mono ?_
  rintro e w2 ⟨rfl, hb2⟩
  have hb3 := hb1.trans (hb2.mono hb1.size)
  have hB2 := one_new hb2
  clear hb1 hb2
  go_wp2_with fail
  refine (HN.out _ hb3).mono ?_
  rintro e w3 ⟨rfl, hb4⟩
  have hr3 := hB2.below hb4
  have hb5 := hb3.trans (hb4.mono hb3.size)
  have hb6 := hb5.alloc hb5.size (.cells #[.string s, .int .i64 (n : Int)] 114)
  have hnl : NewLab (w3.alloc (.cells #[.string s, .int .i64 (n : Int)] 114)) base (freeTo ob lim) (lab1 w3.heap.size (freeTo ob lim)) lab := by
    refine ⟨fun b l hl => ?_, fun b l hl => ?_⟩
    · unfold lab1 at hl
      split at hl
      · rename_i e
        subst e
        exact ⟨lab_none HH.out hb5.size, Nat.le_trans HB.out hb5.size, by simp⟩
      · cases hl
    · unfold lab1 at hl
      split at hl
      · cases hl; rfl
      · cases hl
  have hA := add_any (HH.out.below hb6) hnl (v := .iface 110 (ptr w3.heap.size)) (o := .text s n) ⟨_, rfl, by simp [lab1], Blk.new _ _ _⟩ hshort (Nat.le_trans HB.out hb6.size)
  have hE := fun w4 ob' => make_end (w2 := w4) (ob' := ob') HH.out hb6 hnl (fun b hl => by
    unfold lab1 at hl
    split at hl
    · rename_i e; have := hb5.size; omega
    · exact absurd rfl hl) (r := w.heap.size) (Nat.le_refl _) (by unfold lab1; rw [if_neg (by have := hr3.lt; omega)]) (hr3.alloc _)
  rw [HRR.out] at hA
  have HA := Lib.hid hA
  have HE := Lib.hid hE
  clear hA hE hnl hb6 hb5 hr3 hb4 hb3 hB2
  go_wp2_with fail
  refine HA.out.mono ?_
  rintro e w4 ⟨rfl, hok⟩
  obtain ⟨hB4, hfin⟩ := HE.out w4 _ hok
  obtain ⟨b0, b1, e0, e1⟩ := hB4.two
  have HF := Lib.hid hfin
  clear hok hB4 hfin
  go_wp2_with fail
  refine bodyPost_ret (v := .tuple #[wd R.1, .int .i64 R.2.1]) (by simp [results, Tryz.results174, go_sem, b0, b1]) rfl ⟨rfl, HF.out _ _⟩
theorem text_any {w : World} {base hp lim : Nat} {ob : Obs} {lab : Nat → Option Lab} {P : Parts} (h : HeapIs w base hp lim ob lab P) (hb : base ≤ w.heap.size) (s : ByteArray) (hs : s.size ≤ 4611686018427387904) (hT : Tabs w) :
    Calls Tryz.prog 174 #[ptr hp, .string s] w fun e w' => e = .returned (.tuple #[wd (textO ob lim s).1, .int .i64 (textO ob lim s).2.1]) ∧ AddOk w w' base hp lim (textO ob lim s).2.2 lab := by
  unfold textO
  cases hv : Lib.validD s.data.toList
  · rw [if_pos rfl]
    exact (text_bad h s hs hT hv).mono fun e w' ⟨he, hbw⟩ => ⟨he, addOk_below h hbw⟩
  · rw [if_neg (by simp)]
    by_cases hn : 65536 < lenL s.data.toList
    · rw [if_pos hn]
      exact (text_long h s hs hT hv _ rfl hn).mono fun e w' ⟨he, hbw⟩ => ⟨he, addOk_below h hbw⟩
    · rw [if_neg hn]
      exact text_good h hb s hs hT hv _ rfl (by omega)
end Go.Proofs.YtlibdhnlmekmhaaGreatDoor.Make
end

/- Plain mathematics of tables of spans: the value that a binary search over ascending spans finds is the value that a walk from the first span on finds. -/
section
namespace Go.Proofs.YtlibdhnlmekmhaaGreatDoor.Spans

/-- A span: its first and last character and its value. -/
abbrev Span := Int × Int × Int

/-- What a walk from the first span on finds. -/
def findR : List Span → Int → Int → Int
  | [], _, o => o
  | s :: r, c, o => if c ≤ s.2.1 then (if s.1 ≤ c then s.2.2 else o) else findR r c o

/-- The spans ascend. -/
def Rises (l : List Span) : Prop := l.Pairwise fun a b => a.2.1 ≤ b.2.1

/-- How many spans end before a character. -/
def ends (l : List Span) (c : Int) : Nat := l.countP fun s => !decide (c ≤ s.2.1)

theorem ends_le (l : List Span) (c : Int) : ends l c ≤ l.length := List.countP_le_length

theorem ends_zero {l : List Span} {c : Int} (h : ∀ s ∈ l, c ≤ s.2.1) : ends l c = 0 := by
  unfold ends
  rw [List.countP_eq_zero]
  intro s hs
  simp [h s hs]

theorem findR_yes : ∀ (l : List Span) (c o : Int), Rises l → (h : ends l c < l.length) → (l[ends l c]'h).1 ≤ c → findR l c o = (l[ends l c]'h).2.2
  | [], _, _, _, h, _ => absurd h (by simp)
  | s :: r, c, o, ha, h, hf => by
    obtain ⟨h1, h2⟩ := List.pairwise_cons.1 ha
    by_cases hc : c ≤ s.2.1
    · have he : ends (s :: r) c = 0 := ends_zero (fun t ht => by
        rcases List.mem_cons.1 ht with rfl | ht
        · exact hc
        · exact Int.le_trans hc (h1 t ht))
      simp only [he, List.getElem_cons_zero] at hf ⊢
      rw [findR, if_pos hc, if_pos hf]
    · have he : ends (s :: r) c = ends r c + 1 := by simp [ends, hc]
      simp only [he, List.getElem_cons_succ] at hf ⊢
      rw [findR, if_neg hc]
      exact findR_yes r c o h2 (by rw [he] at h; simpa using h) hf

theorem findR_no : ∀ (l : List Span) (c o : Int), Rises l → (∀ h : ends l c < l.length, ¬ (l[ends l c]'h).1 ≤ c) → findR l c o = o
  | [], _, _, _, _ => rfl
  | s :: r, c, o, ha, hf => by
    obtain ⟨h1, h2⟩ := List.pairwise_cons.1 ha
    by_cases hc : c ≤ s.2.1
    · have he : ends (s :: r) c = 0 := ends_zero (fun t ht => by
        rcases List.mem_cons.1 ht with rfl | ht
        · exact hc
        · exact Int.le_trans hc (h1 t ht))
      simp only [he, List.getElem_cons_zero] at hf
      rw [findR, if_pos hc, if_neg (hf (by simp))]
    · have he : ends (s :: r) c = ends r c + 1 := by simp [ends, hc]
      simp only [he, List.getElem_cons_succ] at hf
      rw [findR, if_neg hc]
      exact findR_no r c o h2 (fun h => hf (by simpa using h))

/-- Counting over the places is counting over the spans. -/
theorem countP_places (l : List Span) (f : Span → Bool) : (List.range l.length).countP (fun i => f (l.getD i (0, 0, 0))) = l.countP f := by
  have h : l = (List.range l.length).map (fun i => l.getD i (0, 0, 0)) := by
    apply List.ext_getElem
    · simp
    · intro i h1 h2
      simp [List.getElem?_eq_getElem h1]
  conv => rhs; rw [h, List.countP_map]
  rfl

theorem getD_mono {l : List Span} (h : Rises l) (a b : Nat) (hab : a ≤ b) (hb : b < l.length) : (l.getD a (0, 0, 0)).2.1 ≤ (l.getD b (0, 0, 0)).2.1 := by
  rcases Nat.lt_or_eq_of_le hab with hlt | rfl
  · have := List.pairwise_iff_getElem.1 h a b (by omega) hb hlt
    simpa [List.getD, List.getElem?_eq_getElem hb, List.getElem?_eq_getElem (show a < l.length by omega)] using this
  · exact Int.le_refl _

end Go.Proofs.YtlibdhnlmekmhaaGreatDoor.Spans
end

/- The contracts of runes.find and its closure. -/
section
namespace Go.Proofs.YtlibdhnlmekmhaaGreatDoor.CFind
set_option maxRecDepth 100000
open Go.RowKit Go.Shelf Go.Lib Go.Sort
open Go.Proofs.YtlibdhnlmekmhaaGreatDoor.Spans

/-- Spans that lie in a block, from its first cell on. -/
def SpanRow (w : World) (b : Nat) (l : List Span) : Prop := ∀ i, i < l.length →
  w.cell? ⟨b, i * 3, none⟩ = some (.int .i64 (l.getD i (0, 0, 0)).1) ∧ w.cell? ⟨b, i * 3 + 1, none⟩ = some (.int .i64 (l.getD i (0, 0, 0)).2.1) ∧ w.cell? ⟨b, i * 3 + 2, none⟩ = some (.int .i64 (l.getD i (0, 0, 0)).2.2)

set_option maxHeartbeats 400000 in
theorem closure (bc bs b n cap : Nat) (last : Int) (c : Int) (i : Nat) (W : World) (hi : i < n)
    (hs : W.cell? ⟨bs, 0, none⟩ = some (.slice (some ⟨b, 0, none⟩) n cap)) (hx : W.cell? ⟨bc, 0, none⟩ = some (.int .i64 c)) (hc : W.cell? ⟨b, i * 3 + 1, none⟩ = some (.int .i64 last)) :
    Calls Tryz.prog 233 (#[.int .i64 i] ++ #[.pointer (some ⟨bc, 0, none⟩), .pointer (some ⟨bs, 0, none⟩)]) W fun e w' => e = .returned (.bool (decide (c ≤ last))) ∧ ∃ q, w' = W.drewN q := by
  have hiz : (i : Int) < (n : Int) := by omega
  go_enter Tryz.func233, Tryz.ntmps233
  go_wp2
  go_region
  all_goals go_wp2
  all_goals go_ret
  all_goals exact ⟨by first | rfl | simp, 1, rfl⟩

theorem at_getD {l : List Span} {k : Nat} (h : k < l.length) : l.getD k (0, 0, 0) = l[k] := by simp [List.getD, List.getElem?_eq_getElem h]

set_option maxHeartbeats 1000000 in
/-- runes.find over ascending spans. -/
theorem find_any (b cap : Nat) (l : List Span) (c o : Int) (w : World) (hr : SpanRow w b l) (hb : b < w.heap.size) (ha : Rises l) (hn : l.length < 4611686018427387904) :
    Calls Tryz.prog 216 #[.slice (some ⟨b, 0, none⟩) l.length cap, .int .i64 c, .int .i64 o] w fun e w' => e = .returned (.int .i64 (findR l c o)) ∧ Below w.heap.size w w' := by
  obtain ⟨W0, hW0⟩ : ∃ W0, W0 = (w.alloc (.cells #[.slice (some ⟨b, 0, none⟩) l.length cap] 218)).alloc (.cells #[.int .i64 c] 3) := ⟨_, rfl⟩
  have hsize : W0.heap.size = w.heap.size + 1 + 1 := by rw [hW0]; simp
  have ca : W0.cell? ⟨w.heap.size, 0, none⟩ = some (.slice (some ⟨b, 0, none⟩) l.length cap) := by rw [hW0]; exact cell_alloc_sl _ (cell_new_sl w _ _)
  have cx : W0.cell? ⟨w.heap.size + 1, 0, none⟩ = some (.int .i64 c) := by rw [hW0]; have := cell_new_sl (w.alloc (.cells #[.slice (some ⟨b, 0, none⟩) l.length cap] 218)) (.int .i64 c) 3; rwa [World.size_alloc] at this
  have cc : SpanRow W0 b l := fun i hi => by
    obtain ⟨h1, h2, h3⟩ := hr i hi
    rw [hW0]
    exact ⟨cell_alloc_sl _ (cell_alloc_sl _ h1), cell_alloc_sl _ (cell_alloc_sl _ h2), cell_alloc_sl _ (cell_alloc_sl _ h3)⟩
  have eg : ∀ args w, (callFunc 233 args).run Tryz.prog w = .ok (.enter 233 args) w := enters_of Tryz.func233 (by kernel_rfl) rfl
  have hS := Any.sort_Search Tryz.laysSearch 233 #[.pointer (some ⟨w.heap.size + 1, 0, none⟩), .pointer (some ⟨w.heap.size, 0, none⟩)] l.length (fun i => decide (c ≤ (l.getD i (0, 0, 0)).2.1)) W0 eg hn
    (fun m os i hi => (closure (w.heap.size + 1) w.heap.size b l.length cap (l.getD i (0, 0, 0)).2.1 c i _ hi (cell_grown (by simp [hsize]; omega) ca m os) (cell_grown (by simp [hsize]) cx m os) (cell_grown (by simp [hsize]; omega) (cc i hi).2.1 m os)).mono
      fun _ _ ⟨he, q, hq⟩ => ⟨he, q, #[], by rw [hq, grow_empty]⟩) (fun x y hxy hy h => decide_eq_true (Int.le_trans (of_decide_eq_true h) (getD_mono ha x y hxy hy)))
  rw [countP_places l (fun s => !decide (c ≤ s.2.1)), show l.countP (fun s => !decide (c ≤ s.2.1)) = ends l c from rfl] at hS
  change Calls Tryz.prog 228 _ _ _ at hS
  have hk : ends l c ≤ l.length := ends_le l c
  have hB0 : Below w.heap.size w W0 := by rw [hW0]; exact ((Below.refl _ w).alloc (Nat.le_refl _) _).alloc (by simp) _
  have hyes : ∀ h : ends l c < l.length, (l.getD (ends l c) (0, 0, 0)).1 ≤ c → findR l c o = (l.getD (ends l c) (0, 0, 0)).2.2 := fun h hf => by rw [at_getD h] at hf ⊢; exact findR_yes l c o ha h hf
  have hno : (∀ h : ends l c < l.length, ¬ (l.getD (ends l c) (0, 0, 0)).1 ≤ c) → findR l c o = o := fun h => findR_no l c o ha (fun hl => by have := h hl; rwa [at_getD hl] at this)
  have hS2 := hS.mono (R' := fun e w' => e = .returned (.int .i64 (ends l c)) ∧ w'.cell? ⟨w.heap.size, 0, none⟩ = some (.slice (some ⟨b, 0, none⟩) l.length cap) ∧ w'.cell? ⟨w.heap.size + 1, 0, none⟩ = some (.int .i64 c) ∧ SpanRow w' b l ∧ Below w.heap.size w w')
    (fun e w' ⟨he, q, os, hq⟩ => by
      rw [hq]
      exact ⟨he, cell_grown (by simp [hsize]; omega) ca q os, cell_grown (by simp [hsize]) cx q os, fun i hi => ⟨cell_grown (by simp [hsize]; omega) (cc i hi).1 q os, cell_grown (by simp [hsize]; omega) (cc i hi).2.1 q os, cell_grown (by simp [hsize]; omega) (cc i hi).2.2 q os⟩, hB0.trans (below_grown_sl w.heap.size W0 q os (by omega))⟩)
  clear hS cc hB0 eg hr ha ca cx hsize
  subst hW0
  have HS := Lib.hid hS2
  have Hyes := Lib.hid hyes
  have Hno := Lib.hid hno
  clear hS2 hyes hno
  generalize findR l c o = ans at *
  generalize ends l c = k at *
  by_cases h1 : k < l.length
  · have h1z : (k : Int) < (l.length : Int) := by omega
    obtain ⟨f, hf⟩ : ∃ f, (l.getD k (0, 0, 0)).1 = f := ⟨_, rfl⟩
    obtain ⟨v, hv⟩ : ∃ v, (l.getD k (0, 0, 0)).2.2 = v := ⟨_, rfl⟩
    have HS3 := Lib.hid (HS.out.mono (R' := fun e w' => e = .returned (.int .i64 k) ∧ w'.cell? ⟨w.heap.size, 0, none⟩ = some (.slice (some ⟨b, 0, none⟩) l.length cap) ∧ w'.cell? ⟨w.heap.size + 1, 0, none⟩ = some (.int .i64 c) ∧ w'.cell? ⟨b, k * 3, none⟩ = some (.int .i64 f) ∧ w'.cell? ⟨b, k * 3 + 2, none⟩ = some (.int .i64 v) ∧ Below w.heap.size w w')
      (fun e w' ⟨g1, g2, g3, g4, g5⟩ => ⟨g1, g2, g3, by have := (g4 k h1).1; rwa [hf] at this, by have := (g4 k h1).2.2; rwa [hv] at this, g5⟩))
    have hy : f ≤ c → v = ans := fun h => by rw [← hv]; exact (Hyes.out h1 (by rw [hf]; exact h)).symm
    have hn' : ¬ f ≤ c → o = ans := fun h => (Hno.out (fun _ => by rw [hf]; exact h)).symm
    clear Hyes Hno HS hf hv
    generalize l.length = n at *
    by_cases h2 : f ≤ c
    · obtain rfl := hy h2
      have hd : decide (f ≤ c) = true := decide_eq_true h2
      clear hy hn'
      go_enter Tryz.func216, Tryz.ntmps216
      go_wp2_with (go_at_call 228; refine HS3.out.mono ?_; rintro e w1 ⟨rfl, d1, d2, d3, d4, hB⟩)
      go_quiet (fail)
      go_wp2
      go_ret
      exact ⟨rfl, below_drewNv hB _⟩
    · obtain rfl := hn' h2
      have hd : decide (f ≤ c) = false := decide_eq_false h2
      clear hy hn'
      go_enter Tryz.func216, Tryz.ntmps216
      go_wp2_with (go_at_call 228; refine HS3.out.mono ?_; rintro e w1 ⟨rfl, d1, d2, d3, d4, hB⟩)
      go_quiet (fail)
      go_wp2
      go_ret
      exact ⟨rfl, below_drewNv hB _⟩
  · have h1z : ¬ (k : Int) < (l.length : Int) := by omega
    have hd : decide ((k : Int) < (l.length : Int)) = false := decide_eq_false h1z
    have hd' : decide (k < l.length) = false := decide_eq_false h1
    have hn' : o = ans := (Hno.out (fun h => absurd h h1)).symm
    have HS3 := Lib.hid (HS.out.mono (R' := fun e w' => e = .returned (.int .i64 k) ∧ w'.cell? ⟨w.heap.size, 0, none⟩ = some (.slice (some ⟨b, 0, none⟩) l.length cap) ∧ w'.cell? ⟨w.heap.size + 1, 0, none⟩ = some (.int .i64 c) ∧ Below w.heap.size w w')
      (fun e w' ⟨g1, g2, g3, g4, g5⟩ => ⟨g1, g2, g3, g5⟩))
    obtain rfl := hn'
    clear Hyes Hno HS
    generalize l.length = n at *
    go_enter Tryz.func216, Tryz.ntmps216
    go_wp2_with (go_at_call 228; refine HS3.out.mono ?_; rintro e w1 ⟨rfl, d1, d2, hB⟩)
    go_quiet (fail)
    go_wp2
    go_ret
    exact ⟨rfl, below_drewNv hB _⟩
end Go.Proofs.YtlibdhnlmekmhaaGreatDoor.CFind
end
