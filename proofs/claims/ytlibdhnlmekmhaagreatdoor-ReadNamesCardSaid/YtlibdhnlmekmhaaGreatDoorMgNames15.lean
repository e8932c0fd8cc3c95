/- The contracts of Cons and Vec. | The contracts of Vec and Text. | The contract of Text. -/
import Derived.Test.YtlibdhnlmekmhaaGreatDoorMgNames04
import Derived.Test.YtlibdhnlmekmhaaGreatDoorMgNames14
/- The contracts of Cons and Vec. -/
section
namespace Go.Proofs.YtlibdhnlmekmhaaGreatDoor.Make
set_option maxRecDepth 100000
open Go.RowKit
open Go.Proofs.YtlibdhnlmekmhaaGreatDoor.Own Go.Proofs.YtlibdhnlmekmhaaGreatDoor.Hp Go.Proofs.YtlibdhnlmekmhaaGreatDoor.HeapOrd Go.Proofs.YtlibdhnlmekmhaaGreatDoor.Rep Go.Proofs.YtlibdhnlmekmhaaGreatDoor.Base Go.Proofs.YtlibdhnlmekmhaaGreatDoor.Get Go.Proofs.YtlibdhnlmekmhaaGreatDoor.Size Go.Proofs.YtlibdhnlmekmhaaGreatDoor.Add Go.Proofs.YtlibdhnlmekmhaaGreatDoor.Clone

/-- From the world in which add is called to the one in which its caller ends. -/
theorem make_end {w w1 w2 : World} {base hp lim n r : Nat} {ob ob' : Obs} {lab labO : Nat → Option Lab} {P : Parts} {cs : Array Value} {t : TypeId} (h : HeapIs w base hp lim ob lab P) (hb : Below w.heap.size w w1) (_hn : NewLab w1 base n labO lab)
    (hO : ∀ b, labO b ≠ none → w.heap.size ≤ b) (hr1 : w.heap.size ≤ r) (hr : labO r = none) (hB : Blk w1 r cs t) (hok : AddOk w1 w2 base hp lim ob' (both labO lab)) :
    Blk w2 r cs t ∧ (∀ x y, AddOk w ((w2.setCell ⟨r, 0, none⟩ x).setCell ⟨r, 1, none⟩ y) base hp lim ob' lab) := by
  obtain ⟨lab', P', hI, ha⟩ := hok
  have hr2 := hB.lt
  have nr : both labO lab r = none := by
    unfold both
    rw [hr]
    cases hh : lab r with
    | none => rfl
    | some l => have := (h.inb r l hh).2; omega
  have hof : ∀ b, b < w.heap.size → Of (both labO lab) b → Of lab b := fun b hlt hb' => by
    unfold Of both at hb'
    cases hh : labO b with
    | none => rw [hh] at hb'; exact hb'
    | some l => have := hO b (by rw [hh]; simp); omega
  have nl : lab' r = none := by
    cases hh : lab' r with
    | none => rfl
    | some l =>
      rcases ha.grow r (by unfold Of; rw [hh]; simp) with e | e
      · exact absurd nr e
      · omega
  refine ⟨hB.keeps ha.keeps (by unfold Of; rw [nr]; simp), fun x y => ?_⟩
  have kr : Keeps (fun b => b = r) w2 ((w2.setCell ⟨r, 0, none⟩ x).setCell ⟨r, 1, none⟩ y) := ((Keeps.refl (fun b => b = r) w2).setCell ⟨r, 0, none⟩ _ fun _ => rfl).setCell ⟨r, 1, none⟩ _ fun _ => rfl
  refine ⟨lab', P', hI.keeps kr fun b hb => by subst hb; exact nl, ?_, ?_⟩
  · exact ((Keeps.of_below (F := Of lab) hb).then ha.keeps hof).then kr fun b hlt e => by omega
  · intro b hb'
    rcases ha.grow b hb' with e | e
    · by_cases hlt : b < w.heap.size
      · exact .inl (hof b hlt e)
      · exact .inr (by omega)
    · exact .inr (Nat.le_trans hb.size e)

/-- Labels for one block of an object, and for a block and the rows that it leads to. -/
def lab1 (g n : Nat) (b : Nat) : Option Lab := if b = g then some (.obj n) else none
def lab2 (g n : Nat) (rv : Value) (b : Nat) : Option Lab := if b = g then some (.obj n) else if rv.ownBlock = some b then some (.row n) else none

theorem SlAt.of_owns {w : World} {lab : Nat → Option Lab} {k : Lab} {base : Nat} {e : TypeId} {size : Nat} {v : Value} {n : Nat} {xs : List Value} (h : w.ownsRow base e size v n xs) (hl : ∀ b, v.ownBlock = some b → lab b = some k) : SlAt w lab k v n xs := by
  have hh := h
  rcases h.2 with ⟨rfl, rfl⟩ | ⟨g, cap, cur, rfl, hb, hg, hcap, _, hcs, htake⟩
  · exact ⟨none, 0, rfl, Nat.le_refl _, fun h => absurd h (by simp)⟩
  · exact ⟨_, cap, rfl, hcap, fun _ => ⟨g, rfl, hl g rfl, Row.of_owns hh⟩⟩

theorem owns_base' {w : World} {base base' : Nat} {e : TypeId} {size : Nat} {v : Value} {n : Nat} {xs : List Value} (h : w.ownsRow base e size v n xs) (hb : base' ≤ base) : w.ownsRow base' e size v n xs := by
  refine ⟨h.1, ?_⟩
  rcases h.2 with h0 | ⟨g, cap, cur, hv, hbg, rest⟩
  · exact .inl h0
  · exact .inr ⟨g, cap, cur, hv, by omega, rest⟩
theorem lab_none {w : World} {base hp lim : Nat} {ob : Obs} {lab : Nat → Option Lab} {P : Parts} (h : HeapIs w base hp lim ob lab P) {b : Nat} (hb : w.heap.size ≤ b) : lab b = none := by
  cases hh : lab b with
  | none => rfl
  | some l => have := (h.inb b l hh).2; omega

set_option maxHeartbeats 4000000 in
theorem cons_any {w : World} {base hp lim : Nat} {ob : Obs} {lab : Nat → Option Lab} {P : Parts} (h : HeapIs w base hp lim ob lab P) (hb : base ≤ w.heap.size) (x y : Wd) :
    Calls Tryz.prog 55 #[ptr hp, wd x, wd y] w fun e w' => e = .returned (.tuple #[wd (addO ob lim (.cons x y)).1, .int .i64 (addO ob lim (.cons x y)).2.1]) ∧ AddOk w w' base hp lim (addO ob lim (.cons x y)).2.2 lab := by
  obtain ⟨W1, hW1⟩ : ∃ W1, W1 = ((w.alloc (.cells #[.int .i64 x.1, .int .i64 x.2] 28)).alloc (.cells #[.int .i64 y.1, .int .i64 y.2] 28)).alloc (.cells #[.int .i64 0, .int .i64 0] 28) := ⟨_, rfl⟩
  have hb1 : Below w.heap.size w W1 := by rw [hW1]; exact (((Below.refl _ _).alloc (Nat.le_refl _) _).alloc (by simp) _).alloc (by simp; omega) _
  have hs1 : W1.heap.size = w.heap.size + 1 + 1 + 1 := by rw [hW1]; simp
  have hr1 : Blk W1 (w.heap.size + 1 + 1) #[.int .i64 0, .int .i64 0] 28 := by rw [hW1]; have := Blk.new ((w.alloc (.cells #[.int .i64 x.1, .int .i64 x.2] 28)).alloc (.cells #[.int .i64 y.1, .int .i64 y.2] 28)) #[.int .i64 0, .int .i64 0] 28; simpa using this
  have hb2 := hb1.alloc hb1.size (.cells #[.int .i64 x.1, .int .i64 x.2, .int .i64 y.1, .int .i64 y.2] 97)
  have hnl : NewLab (W1.alloc (.cells #[.int .i64 x.1, .int .i64 x.2, .int .i64 y.1, .int .i64 y.2] 97)) base (freeTo ob lim) (lab1 W1.heap.size (freeTo ob lim)) lab := by
    refine ⟨fun b l hl => ?_, fun b l hl => ?_⟩
    · unfold lab1 at hl
      split at hl
      · rename_i e
        subst e
        exact ⟨lab_none h hb1.size, by omega, by simp⟩
      · cases hl
    · unfold lab1 at hl
      split at hl
      · cases hl; rfl
      · cases hl
  have hA := add_any (h.below hb2) hnl (v := .iface 93 (ptr W1.heap.size)) (o := .cons x y) ⟨_, rfl, by simp [lab1], Blk.new _ _ _⟩ trivial (Nat.le_trans hb hb2.size)
  have hE := fun w2 ob' => make_end (w2 := w2) (ob' := ob') h hb2 hnl (fun b hl => by
    unfold lab1 at hl
    split at hl
    · rename_i e; have := hb1.size; omega
    · exact absurd rfl hl) (r := w.heap.size + 1 + 1) (by omega) (by unfold lab1; rw [if_neg (by omega)]) (hr1.alloc _)
  rw [hs1] at hA
  simp only [hs1] at hE
  rw [hW1] at hA
  simp only [hW1] at hE
  generalize (addO ob lim (.cons x y)).1 = R at *
  generalize (addO ob lim (.cons x y)).2.1 = C at *
  generalize (addO ob lim (.cons x y)).2.2 = O at *
  have HA := Lib.hid hA
  have HE := Lib.hid hE
  have HV := Lib.hid (valid_any h _ hb1)
  rw [hW1] at HV
  clear hA hE hnl hb2 hr1 hs1 hb1 hW1 h hb
  go_enter Tryz.func55, Tryz.ntmps55
  go_wp2_with fail
  refine HV.out.mono ?_
  rintro e w1 ⟨rfl, rfl⟩
  go_wp2_with fail
  refine HA.out.mono ?_
  rintro e w2 ⟨rfl, hok⟩
  obtain ⟨hB2, hfin⟩ := HE.out w2 O hok
  obtain ⟨b0, b1, e0, e1⟩ := hB2.two
  have HF := Lib.hid hfin
  clear hok hB2 hfin
  go_wp2_with fail
  refine bodyPost_ret (v := .tuple #[wd R, .int .i64 C]) (by simp [results, Tryz.results55, go_sem, b0, b1]) rfl ⟨rfl, HF.out _ _⟩
end Go.Proofs.YtlibdhnlmekmhaaGreatDoor.Make
end

/- The contracts of Vec and Text. -/
section
namespace Go.Proofs.YtlibdhnlmekmhaaGreatDoor.Make
set_option maxRecDepth 100000
open Go.RowKit
open Go.Proofs.YtlibdhnlmekmhaaGreatDoor.Own Go.Proofs.YtlibdhnlmekmhaaGreatDoor.Hp Go.Proofs.YtlibdhnlmekmhaaGreatDoor.HeapOrd Go.Proofs.YtlibdhnlmekmhaaGreatDoor.Rep Go.Proofs.YtlibdhnlmekmhaaGreatDoor.Base Go.Proofs.YtlibdhnlmekmhaaGreatDoor.Get Go.Proofs.YtlibdhnlmekmhaaGreatDoor.Size Go.Proofs.YtlibdhnlmekmhaaGreatDoor.Add Go.Proofs.YtlibdhnlmekmhaaGreatDoor.Clone Go.Proofs.YtlibdhnlmekmhaaGreatDoor.Strs

/-- What Vec returns. -/
def vecO (ob : Obs) (lim : Nat) (l : List Wd) : Wd × Int × Obs := if 65536 < l.length then ((0, 0), 4, ob) else addO ob lim (.vec l)

/-- An object whose header is the block laid last, with a row that was made before. -/
theorem newLab2 {w W2 : World} {base hp lim e n m : Nat} {size : Nat} {ob : Obs} {lab : Nat → Option Lab} {P : Parts} {rv : Value} {xs : List Value} {o : Obj} (h : HeapIs w base hp lim ob lab P) (hb : base ≤ w.heap.size) (hb2 : Below w.heap.size w W2)
    (ho : W2.ownsRow w.heap.size e size rv m xs) :
    NewLab (W2.alloc o) base n (lab2 W2.heap.size n rv) lab ∧ (∀ b, lab2 W2.heap.size n rv b ≠ none → w.heap.size ≤ b) ∧ (∀ b, rv.ownBlock = some b → lab2 W2.heap.size n rv b = some (.row n)) ∧ lab2 W2.heap.size n rv W2.heap.size = some (.obj n) := by
  have hlt : ∀ b, rv.ownBlock = some b → w.heap.size ≤ b ∧ b < W2.heap.size := ho.lt
  refine ⟨⟨fun b l hl => ?_, fun b l hl => ?_⟩, fun b hl => ?_, fun b hb' => ?_, by simp [lab2]⟩
  · unfold lab2 at hl
    split at hl
    · rename_i e
      subst e
      exact ⟨lab_none h hb2.size, Nat.le_trans hb hb2.size, by simp⟩
    · split at hl
      · rename_i e
        have := hlt b e
        exact ⟨lab_none h this.1, by omega, by simp; omega⟩
      · cases hl
  · unfold lab2 at hl
    split at hl
    · cases hl; rfl
    · split at hl
      · cases hl; rfl
      · cases hl
  · unfold lab2 at hl
    split at hl
    · rename_i e; subst e; exact hb2.size
    · split at hl
      · rename_i e; exact (hlt b e).1
      · exact absurd rfl hl
  · unfold lab2
    rw [if_neg (by have := hlt b hb'; omega), if_pos hb']

set_option maxHeartbeats 4000000 in
theorem vec_long {w : World} {base hp lim : Nat} {ob : Obs} {lab : Nat → Option Lab} {P : Parts} (h : HeapIs w base hp lim ob lab P) (A : Option Addr) (n c : Nat) (hn : 65536 < n) (hm : n ≤ 9223372036854775807) :
    Calls Tryz.prog 167 #[ptr hp, .slice A n c] w fun e w' => e = .returned (.tuple #[wd (0, 0), .int .i64 4]) ∧ Below w.heap.size w w' := by
  have hb1 : Below w.heap.size w (w.alloc (.cells #[.int .i64 0, .int .i64 0] 28)) := (Below.refl _ _).alloc (Nat.le_refl _) _
  have HV := Lib.hid (valid_any h _ hb1)
  have hd : decide ((65536 : Int) < n) = true := decide_eq_true (by omega)
  clear h
  go_enter Tryz.func167, Tryz.ntmps167
  go_wp2_with fail
  refine HV.out.mono ?_
  rintro e w1 ⟨rfl, rfl⟩
  go_wp2_with fail
  refine bodyPost_ret (v := .tuple #[wd (0, 0), .int .i64 4]) (by simp [results, Tryz.results167, go_sem]) rfl ⟨rfl, ?_⟩
  exact (Below.refl _ _).alloc (Nat.le_refl _) _
set_option maxHeartbeats 4000000 in
theorem vec_short {w : World} {base hp lim : Nat} {ob : Obs} {lab : Nat → Option Lab} {P : Parts} (h : HeapIs w base hp lim ob lab P) (hb : base ≤ w.heap.size) (A : Option Addr) (c : Nat) (l : List Wd) (hl : SlR w (.slice A l.length c) l.length (wcells l)) (hn : l.length ≤ 65536) :
    Calls Tryz.prog 167 #[ptr hp, .slice A l.length c] w fun e w' => e = .returned (.tuple #[wd (addO ob lim (.vec l)).1, .int .i64 (addO ob lim (.vec l)).2.1]) ∧ AddOk w w' base hp lim (addO ob lim (.vec l)).2.2 lab := by
  obtain ⟨W1, hW1⟩ : ∃ W1, W1 = w.alloc (.cells #[.int .i64 0, .int .i64 0] 28) := ⟨_, rfl⟩
  have hb1 : Below w.heap.size w W1 := by rw [hW1]; exact (Below.refl _ _).alloc (Nat.le_refl _) _
  have hr1 : Blk W1 w.heap.size #[.int .i64 0, .int .i64 0] 28 := by rw [hW1]; exact Blk.new _ _ _
  have HV := Lib.hid (valid_any h _ hb1)
  have HC := Lib.hid (cloneW_any _ _ _ W1 (hl.below hb1) (wcells_length l) (wcells_one l) (by omega))
  have HH := Lib.hid h
  have HB := Lib.hid hb
  have HB1 := Lib.hid hb1
  have HR1 := Lib.hid hr1
  have HW := Lib.hid hW1
  have hW := HW.out
  obtain ⟨R, hR⟩ : ∃ R, addO ob lim (.vec l) = R := ⟨_, rfl⟩
  rw [hR]
  have HRR := Lib.hid hR
  obtain ⟨n, hn0⟩ : ∃ n, l.length = n := ⟨_, rfl⟩
  rw [hn0] at HC hn ⊢
  have HN := Lib.hid hn0
  have hd : decide ((65536 : Int) < n) = false := decide_eq_false (by omega)
  rw [hW1] at HV HC
  clear h hb hb1 hr1 hl hW1 hW hR hn0
  go_enter Tryz.func167, Tryz.ntmps167
  go_wp2_with fail
  refine HV.out.mono ?_
  rintro e w1 ⟨rfl, rfl⟩
  go_wp2_with fail
  refine HC.out.mono ?_
  rintro e W2 ⟨⟨rv, rfl, hown⟩, hb2⟩
  rw [← HW.out] at hb2
  have hb3 := HB1.out.trans (hb2.mono HB1.out.size)
  have hown1 : W2.ownsRow w.heap.size 28 2 rv l.length (wcells l) := by rw [HN.out]; exact owns_base' hown (by simp)
  obtain ⟨n1, n2, n3, n4⟩ := newLab2 (n := freeTo ob lim) (o := .cells #[rv] 193) HH.out HB.out hb3 hown1
  have hb4 := hb3.alloc hb3.size (.cells #[rv] 193)
  have hA := add_any (HH.out.below hb4) n1 (v := .iface 189 (ptr W2.heap.size)) (o := .vec l) ⟨_, rv, rfl, n4, Blk.new _ _ _, SlAt.of_owns (owns_below hown1 ((Below.refl _ _).alloc (Nat.le_refl _) _)) n3⟩ (show l.length ≤ 65536 by rw [HN.out]; exact hn) (Nat.le_trans HB.out hb4.size)
  have hE := fun w2 ob' => make_end (w2 := w2) (ob' := ob') HH.out hb4 n1 n2 (r := w.heap.size) (Nat.le_refl _) (by
    unfold lab2
    have h1 := HR1.out.lt
    have h2 := hb2.size
    rw [if_neg (by omega), if_neg fun e => by have := (hown.lt w.heap.size e).1; simp at this; omega]) ((HR1.out.below hb2).alloc _)
  rw [HRR.out] at hA
  have HA := Lib.hid hA
  have HE := Lib.hid hE
  obtain ⟨A', c', rfl⟩ := slice_of' hown
  clear hA hE n1 n2 n3 n4 hown1 hown hb2 hb3 hb4
  go_wp2_with fail
  refine HA.out.mono ?_
  rintro e w2 ⟨rfl, hok⟩
  obtain ⟨hB2, hfin⟩ := HE.out w2 _ hok
  obtain ⟨b0, b1, e0, e1⟩ := hB2.two
  have HF := Lib.hid hfin
  clear hok hB2 hfin
  go_wp2_with fail
  refine bodyPost_ret (v := .tuple #[wd R.1, .int .i64 R.2.1]) (by simp [results, Tryz.results167, go_sem, b0, b1]) rfl ⟨rfl, HF.out _ _⟩
theorem addOk_below {w w' : World} {base hp lim : Nat} {ob : Obs} {lab : Nat → Option Lab} {P : Parts} (h : HeapIs w base hp lim ob lab P) (hb : Below w.heap.size w w') : AddOk w w' base hp lim ob lab := ⟨lab, P, h.below hb, .below hb⟩
theorem vec_any {w : World} {base hp lim : Nat} {ob : Obs} {lab : Nat → Option Lab} {P : Parts} (h : HeapIs w base hp lim ob lab P) (hb : base ≤ w.heap.size) (v : Value) (l : List Wd) (hl : SlR w v l.length (wcells l)) (hm : l.length ≤ 9223372036854775807) :
    Calls Tryz.prog 167 #[ptr hp, v] w fun e w' => e = .returned (.tuple #[wd (vecO ob lim l).1, .int .i64 (vecO ob lim l).2.1]) ∧ AddOk w w' base hp lim (vecO ob lim l).2.2 lab := by
  have hl' := hl
  obtain ⟨A, c, rfl, _⟩ := hl'
  unfold vecO
  by_cases hn : 65536 < l.length
  · rw [if_pos hn]
    exact (vec_long h A l.length c hn hm).mono fun e w' ⟨he, hbw⟩ => ⟨he, addOk_below h hbw⟩
  · rw [if_neg hn]
    exact vec_short h hb A c l hl (by omega)
end Go.Proofs.YtlibdhnlmekmhaaGreatDoor.Make
end

/- The contract of Text. -/
section
namespace Go.Proofs.YtlibdhnlmekmhaaGreatDoor.Make
set_option maxRecDepth 100000
open Go.RowKit
open Go.Proofs.YtlibdhnlmekmhaaGreatDoor.Own Go.Proofs.YtlibdhnlmekmhaaGreatDoor.Hp Go.Proofs.YtlibdhnlmekmhaaGreatDoor.HeapOrd Go.Proofs.YtlibdhnlmekmhaaGreatDoor.Rep Go.Proofs.YtlibdhnlmekmhaaGreatDoor.Base Go.Proofs.YtlibdhnlmekmhaaGreatDoor.Get Go.Proofs.YtlibdhnlmekmhaaGreatDoor.Size Go.Proofs.YtlibdhnlmekmhaaGreatDoor.Add Go.Proofs.YtlibdhnlmekmhaaGreatDoor.Clone Go.Proofs.YtlibdhnlmekmhaaGreatDoor.Strs

/-- What Text returns. -/
def textO (ob : Obs) (lim : Nat) (s : ByteArray) : Wd × Int × Obs :=
  if Lib.validD s.data.toList = false then ((0, 0), 5, ob) else if 65536 < lenL s.data.toList then ((0, 0), 4, ob) else addO ob lim (.text s (lenL s.data.toList))

set_option maxHeartbeats 4000000 in
theorem text_bad {w : World} {base hp lim : Nat} {ob : Obs} {lab : Nat → Option Lab} {P : Parts} (h : HeapIs w base hp lim ob lab P) (s : ByteArray) (hs : s.size ≤ 4611686018427387904) (hT : Tabs w) (hv : Lib.validD s.data.toList = false) :
    Calls Tryz.prog 174 #[ptr hp, .string s] w fun e w' => e = .returned (.tuple #[wd (0, 0), .int .i64 5]) ∧ Below w.heap.size w w' := by
  have hb1 : Below w.heap.size w (w.alloc (.cells #[.int .i64 0, .int .i64 0] 28)) := (Below.refl _ _).alloc (Nat.le_refl _) _
  have HV := Lib.hid (Get.valid_any h _ hb1)
  have hL := Strs.valid_any s _ (by omega) (hT.below hb1)
  rw [hv] at hL
  have HL := Lib.hid hL
  clear h hL hT hv
  go_enter Tryz.func174, Tryz.ntmps174
  go_wp2_with fail
  refine HV.out.mono ?_
  rintro e w1 ⟨rfl, rfl⟩
  go_wp2_with fail
  refine HL.out.mono ?_
  rintro e w2 ⟨rfl, hb2⟩
  obtain ⟨b0, b1, e0, e1⟩ := (one_new hb2).two
  go_wp2_with fail
  refine bodyPost_ret (v := .tuple #[wd (0, 0), .int .i64 5]) (by simp [results, Tryz.results174, go_sem, b0, b1]) rfl ⟨rfl, ?_⟩
  exact ((hb1.trans (hb2.mono hb1.size)).setCell (by simp) _).setCell (by simp) _
set_option maxHeartbeats 4000000 in
theorem text_long {w : World} {base hp lim : Nat} {ob : Obs} {lab : Nat → Option Lab} {P : Parts} (h : HeapIs w base hp lim ob lab P) (s : ByteArray) (hs : s.size ≤ 4611686018427387904) (hT : Tabs w) (hv : Lib.validD s.data.toList = true) (n : Nat) (hn : lenL s.data.toList = n) (hlong : 65536 < n) :
    Calls Tryz.prog 174 #[ptr hp, .string s] w fun e w' => e = .returned (.tuple #[wd (0, 0), .int .i64 4]) ∧ Below w.heap.size w w' := by
  have hb1 : Below w.heap.size w (w.alloc (.cells #[.int .i64 0, .int .i64 0] 28)) := (Below.refl _ _).alloc (Nat.le_refl _) _
  have HV := Lib.hid (Get.valid_any h _ hb1)
  have hL := Strs.valid_any s _ (by omega) (hT.below hb1)
  rw [hv] at hL
  have HL := Lib.hid hL
  have hN := fun w2 (hb : Below w.heap.size w w2) => len_any s w2 (by omega) (hT.below hb)
  simp only [hn] at hN
  have HN := Lib.hid hN
  have hd : decide ((65536 : Int) < n) = true := decide_eq_true (by omega)
  clear h hL hT hv hN hn
  go_enter Tryz.func174, Tryz.ntmps174
  go_wp2_with fail
  refine HV.out.mono ?_
  rintro e w1 ⟨rfl, rfl⟩
  go_wp2_with fail
  refine HL.out.mono ?_
  rintro e w2 ⟨rfl, hb2⟩
  have hb3 := hb1.trans (hb2.mono hb1.size)
  have hB2 := one_new hb2
  go_wp2_with fail
  refine (HN.out _ hb3).mono ?_
  rintro e w3 ⟨rfl, hb4⟩
  obtain ⟨b0, b1, e0, e1⟩ := (hB2.below hb4).two
  clear hB2
  go_wp2_with fail
  refine bodyPost_ret (v := .tuple #[wd (0, 0), .int .i64 4]) (by simp [results, Tryz.results174, go_sem, b0, b1]) rfl ⟨rfl, ?_⟩
  exact ((hb3.trans (hb4.mono hb3.size)).setCell (by simp) _).setCell (by simp) _
set_option maxHeartbeats 4000000 in
theorem text_good {w : World} {base hp lim : Nat} {ob : Obs} {lab : Nat → Option Lab} {P : Parts} (h : HeapIs w base hp lim ob lab P) (hb : base ≤ w.heap.size) (s : ByteArray) (hs : s.size ≤ 4611686018427387904) (hT : Tabs w) (hv : Lib.validD s.data.toList = true) (n : Nat) (hn : lenL s.data.toList = n) (hshort : n ≤ 65536) :
    Calls Tryz.prog 174 #[ptr hp, .string s] w fun e w' => e = .returned (.tuple #[wd (addO ob lim (.text s n)).1, .int .i64 (addO ob lim (.text s n)).2.1]) ∧ AddOk w w' base hp lim (addO ob lim (.text s n)).2.2 lab := by
  have hb1 : Below w.heap.size w (w.alloc (.cells #[.int .i64 0, .int .i64 0] 28)) := (Below.refl _ _).alloc (Nat.le_refl _) _
  have HV := Lib.hid (Get.valid_any h _ hb1)
  have hL := Strs.valid_any s _ (by omega) (hT.below hb1)
  rw [hv] at hL
  have HL := Lib.hid hL
  have hN := fun w2 (hb : Below w.heap.size w w2) => len_any s w2 (by omega) (hT.below hb)
  simp only [hn] at hN
  have HN := Lib.hid hN
  have hd : decide ((65536 : Int) < n) = false := decide_eq_false (by omega)
  obtain ⟨R, hR⟩ : ∃ R, addO ob lim (.text s n) = R := ⟨_, rfl⟩
  rw [hR]
  have HRR := Lib.hid hR
  have HH := Lib.hid h
  have HB := Lib.hid hb
  clear h hL hT hv hN hn hR hb
  go_enter Tryz.func174, Tryz.ntmps174
  go_wp2_with fail
  refine HV.out.mono ?_
  rintro e w1 ⟨rfl, rfl⟩
  go_wp2_with fail
  refine HL.out.mono ?_
  rintro e w2 ⟨rfl, hb2⟩
  have hb3 := hb1.trans (hb2.mono hb1.size)
  have hB2 := one_new hb2
  clear hb1 hb2
  go_wp2_with fail
  refine (HN.out _ hb3).mono ?_
  rintro e w3 ⟨rfl, hb4⟩
  have hr3 := hB2.below hb4
  have hb5 := hb3.trans (hb4.mono hb3.size)
  have hb6 := hb5.alloc hb5.size (.cells #[.string s, .int .i64 (n : Int)] 114)
  have hnl : NewLab (w3.alloc (.cells #[.string s, .int .i64 (n : Int)] 114)) base (freeTo ob lim) (lab1 w3.heap.size (freeTo ob lim)) lab := by
    refine ⟨fun b l hl => ?_, fun b l hl => ?_⟩
    · unfold lab1 at hl
      split at hl
      · rename_i e
        subst e
        exact ⟨lab_none HH.out hb5.size, Nat.le_trans HB.out hb5.size, by simp⟩
      · cases hl
    · unfold lab1 at hl
      split at hl
      · cases hl; rfl
      · cases hl
  have hA := add_any (HH.out.below hb6) hnl (v := .iface 110 (ptr w3.heap.size)) (o := .text s n) ⟨_, rfl, by simp [lab1], Blk.new _ _ _⟩ hshort (Nat.le_trans HB.out hb6.size)
  have hE := fun w4 ob' => make_end (w2 := w4) (ob' := ob') HH.out hb6 hnl (fun b hl => by
    unfold lab1 at hl
    split at hl
    · rename_i e; have := hb5.size; omega
    · exact absurd rfl hl) (r := w.heap.size) (Nat.le_refl _) (by unfold lab1; rw [if_neg (by have := hr3.lt; omega)]) (hr3.alloc _)
  rw [HRR.out] at hA
  have HA := Lib.hid hA
  have HE := Lib.hid hE
  clear hA hE hnl hb6 hb5 hr3 hb4 hb3 hB2
  go_wp2_with fail
  refine HA.out.mono ?_
  rintro e w4 ⟨rfl, hok⟩
  obtain ⟨hB4, hfin⟩ := HE.out w4 _ hok
  obtain ⟨b0, b1, e0, e1⟩ := hB4.two
  have HF := Lib.hid hfin
  clear hok hB4 hfin
  go_wp2_with fail
  refine bodyPost_ret (v := .tuple #[wd R.1, .int .i64 R.2.1]) (by simp [results, Tryz.results174, go_sem, b0, b1]) rfl ⟨rfl, HF.out _ _⟩
theorem text_any {w : World} {base hp lim : Nat} {ob : Obs} {lab : Nat → Option Lab} {P : Parts} (h : HeapIs w base hp lim ob lab P) (hb : base ≤ w.heap.size) (s : ByteArray) (hs : s.size ≤ 4611686018427387904) (hT : Tabs w) :
    Calls Tryz.prog 174 #[ptr hp, .string s] w fun e w' => e = .returned (.tuple #[wd (textO ob lim s).1, .int .i64 (textO ob lim s).2.1]) ∧ AddOk w w' base hp lim (textO ob lim s).2.2 lab := by
  unfold textO
  cases hv : Lib.validD s.data.toList
  · rw [if_pos rfl]
    exact (text_bad h s hs hT hv).mono fun e w' ⟨he, hbw⟩ => ⟨he, addOk_below h hbw⟩
  · rw [if_neg (by simp)]
    by_cases hn : 65536 < lenL s.data.toList
    · rw [if_pos hn]
      exact (text_long h s hs hT hv _ rfl hn).mono fun e w' ⟨he, hbw⟩ => ⟨he, addOk_below h hbw⟩
    · rw [if_neg hn]
      exact text_good h hb s hs hT hv _ rfl (by omega)
end Go.Proofs.YtlibdhnlmekmhaaGreatDoor.Make
end
