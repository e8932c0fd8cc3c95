/- HeapApart: the walk of the law. -/
import Derived.Test.YtcdlfgggmigcnaaDoorApartMath
import Derived.Test.YtcdlfgggmigcnaaDoorCopy
import Derived.Test.YtcdlfgggmigcnaaDoorSameW
import Derived.Test.YtcdlfgggmigcnaaDoorLives
import Derived.Test.YtcdlfgggmigcnaaDoorWordArgs
import Derived.Deep.RegionHeld3
import Derived.StillTailTactics
namespace Go.Proofs.YtcdlfgggmigcnaaDoor.LawApart
set_option maxRecDepth 100000
open Go.RowKit
open Go.Proofs.YtcdlfgggmigcnaaDoor.Own Go.Proofs.YtcdlfgggmigcnaaDoor.Hp Go.Proofs.YtcdlfgggmigcnaaDoor.Rep Go.Proofs.YtcdlfgggmigcnaaDoor.Get Go.Proofs.YtcdlfgggmigcnaaDoor.Quick Go.Proofs.YtcdlfgggmigcnaaDoor.Add Go.Proofs.YtcdlfgggmigcnaaDoor.Make Go.Proofs.YtcdlfgggmigcnaaDoor.Kit Go.Proofs.YtcdlfgggmigcnaaDoor.Strs Go.Proofs.YtcdlfgggmigcnaaDoor.Clone Go.Proofs.YtcdlfgggmigcnaaDoor.Lives Go.Proofs.YtcdlfgggmigcnaaDoor.Nums Go.Proofs.YtcdlfgggmigcnaaDoor.Collect Go.Proofs.YtcdlfgggmigcnaaDoor.Elem Go.Proofs.YtcdlfgggmigcnaaDoor.Apart Go.Proofs.YtcdlfgggmigcnaaDoor.WordArgs Go.Proofs.YtcdlfgggmigcnaaDoor.Dup Go.Proofs.YtcdlfgggmigcnaaDoor.SameW

/-- A heap of the law in a world behind w1. -/
structure Ap (w1 wr : World) (ob : Obs) (lab : Nat → Option Lab) (P : Parts) : Prop where
  below : Below w1.heap.size w1 wr
  heap : HeapIs wr w1.heap.size w1.heap.size 9 ob lab P
theorem Ap.later {w1 wr W : World} {ob : Obs} {lab : Nat → Option Lab} {P : Parts} (h : Ap w1 wr ob lab P) (hb : Below wr.heap.size wr W) : Ap w1 W ob lab P :=
  ⟨h.below.trans (hb.mono h.below.size), h.heap.below hb⟩
theorem Ap.after {w1 wr W : World} {ob ob' : Obs} {lab lab' : Nat → Option Lab} {P P' : Parts} (h : Ap w1 wr ob lab P) (hI : HeapIs W w1.heap.size w1.heap.size 9 ob' lab' P') (hA : After wr W lab lab') : Ap w1 W ob' lab' P' :=
  ⟨h.below.trans (after_below h.heap h.below.size hA), hI⟩
theorem Ap.keeps {F : Nat → Prop} {w1 wr W : World} {ob : Obs} {lab : Nat → Option Lab} {P : Parts} (h : Ap w1 wr ob lab P) (hk : Keeps F wr W) (hF : ∀ b, F b → lab b = none ∧ w1.heap.size ≤ b) : Ap w1 W ob lab P :=
  ⟨h.below.trans (hk.below h.below.size fun b e => (hF b e).2), h.heap.keeps hk fun b e => (hF b e).1⟩

theorem words_at {w : World} {A : Option Addr} {n c : Nat} {l : List Wd} (h : SlR w (.slice A n c) n (wcells l)) (h0 : 0 < n) (k : Nat) (y : Wd) (hy : l[k]? = some y) :
    ∃ g o, A = some ⟨g, o, none⟩ ∧ (∀ W, Below w.heap.size w W → W.cell? ⟨g, o + k * 2, none⟩ = some (.int .i64 y.1)) ∧ ∀ W, Below w.heap.size w W → W.cell? ⟨g, o + k * 2 + 1, none⟩ = some (.int .i64 y.2) := by
  obtain ⟨A', c', hv, _, hr⟩ := h
  cases hv
  obtain ⟨g, o, hA, hc⟩ := hr h0
  obtain ⟨e1, e2⟩ := Visit.wcells_at l k (List.getElem?_eq_some_iff.1 hy).1
  rw [(List.getElem?_eq_some_iff.1 hy).2] at e1 e2
  have c1 := hc _ _ e1
  have c2 := hc _ _ e2
  refine ⟨g, o, hA, fun W hb => (hb.cell (World.block_lt_of_cell? _ _ c1)).trans c1, fun W hb => ?_⟩
  have := (hb.cell (World.block_lt_of_cell? _ _ c2)).trans c2
  rw [Nat.add_assoc]
  exact this

/-- What lies behind the copy: the heap, the copy, the two boxes. -/
structure Mid (w1 wr : World) (gp bv bc : Nat) (ob obg : Obs) (lab labg : Nat → Option Lab) (P Pg : Parts) : Prop where
  h : Ap w1 wr ob lab P
  g : HeapIs wr gp gp 9 obg labg Pg
  v : Blk wr bv #[.int .i64 4, .int .i64 0] 28
  c : Blk wr bc #[.int .i64 6, .int .i64 1] 28
  low : ∀ b l, lab b = some l → b < gp
  bvl : lab bv = none ∧ bv < gp
  bcl : lab bc = none ∧ bc < gp
  gb : w1.heap.size ≤ gp
theorem Mid.later {w1 wr W : World} {gp bv bc : Nat} {ob obg : Obs} {lab labg : Nat → Option Lab} {P Pg : Parts} (h : Mid w1 wr gp bv bc ob obg lab labg P Pg) (hb : Below wr.heap.size wr W) : Mid w1 W gp bv bc ob obg lab labg P Pg :=
  ⟨h.h.later hb, h.g.below hb, h.v.below hb, h.c.below hb, h.low, h.bvl, h.bcl, h.gb⟩
/-- Blocks of the law's own are written, laid behind the copy. -/
theorem Mid.keeps {F : Nat → Prop} {w1 w0 wr W : World} {gp bv bc : Nat} {ob obg : Obs} {lab labg : Nat → Option Lab} {P Pg : Parts} (h0 : Mid w1 w0 gp bv bc ob obg lab labg P Pg) (h : Mid w1 wr gp bv bc ob obg lab labg P Pg) (hk : Keeps F wr W) (hF : ∀ b, F b → w0.heap.size ≤ b) : Mid w1 W gp bv bc ob obg lab labg P Pg := by
  refine ⟨h.h.keeps hk fun b e => ⟨lab_none h0.h.heap (hF b e), Nat.le_trans h0.h.below.size (hF b e)⟩, h.g.keeps hk fun b e => lab_none h0.g (hF b e), h.v.keeps hk fun e => ?_, h.c.keeps hk fun e => ?_, h.low, h.bvl, h.bcl, h.gb⟩
  · have := hF _ e; have := h0.v.lt; omega
  · have := hF _ e; have := h0.c.lt; omega
/-- The copy has been changed. -/
theorem Mid.copy {w1 wr W : World} {gp bv bc : Nat} {ob obg obg' : Obs} {lab labg labg' : Nat → Option Lab} {P Pg Pg' : Parts} (h : Mid w1 wr gp bv bc ob obg lab labg P Pg) (hk : Keeps (Of labg) wr W) (hg : HeapIs W gp gp 9 obg' labg' Pg') : Mid w1 W gp bv bc ob obg' lab labg' P Pg' := by
  have hF : ∀ b, Of labg b → gp ≤ b := fun b e => by
    cases hh : labg b with
    | none => exact absurd hh e
    | some l => exact (h.g.inb b l hh).1
  refine ⟨h.h.keeps hk fun b e => ⟨?_, Nat.le_trans h.gb (hF b e)⟩, hg, h.v.keeps hk fun e => ?_, h.c.keeps hk fun e => ?_, h.low, h.bvl, h.bcl, h.gb⟩
  · cases hh : lab b with
    | none => rfl
    | some l => have := h.low b l hh; have := hF b e; omega
  · have := hF _ e; have := h.bvl.2; omega
  · have := hF _ e; have := h.bcl.2; omega

set_option maxHeartbeats 1600000 in
theorem core (A0 : Option Addr) (n c0 : Nat) (l : List Wd) (i : Int) (x : Wd) (w : World) (h0 : SlR w (.slice A0 n c0) n (wcells l)) (e0 : l.length = n) (hn0 : 0 < n) (hn : n ≤ 60) (hT : Tabs w) :
    Calls Tryd.prog 7 #[.slice A0 n c0, .int .i64 i, wd x] w fun e w' => e = .returned (.bool true) ∧ Below w.heap.size w w' := by
  obtain ⟨k, hk⟩ := Int.eq_ofNat_of_zero_le (pick_range i n (by omega)).1
  have hk2 := (pick_range i n (by omega)).2
  have hP := fun w => pick_any i n w (by omega) (by omega)
  rw [hk] at hk2
  simp only [hk] at hP
  have hkn : k < n := by omega
  obtain ⟨y, hy⟩ : ∃ y, l[k]? = some y := ⟨l[k]'(by omega), List.getElem?_eq_getElem _⟩
  have hlk : k < l.length := by omega
  obtain ⟨g0, o0, rfl, q1, q2⟩ := words_at h0 hn0 k y hy
  have hbB := box_below w x
  have hT1 := hT.below hbB
  have HL := Lib.hid (lives_any _ hT1)
  have HT := Lib.hid hT
  have HP := Lib.hid hP
  have HQ := Lib.hid (And.intro q1 q2)
  have H0 := Lib.hid h0
  have HE := Lib.hid e0
  have HLk := Lib.hid hlk
  have hz1 : ((n : Int) == 0) = false := beq_eq_false_iff_ne.2 (by omega)
  have hz1' : (n == 0) = false := beq_eq_false_iff_ne.2 (by omega)
  have hz2 : ¬ (60 : Int) < (n : Int) := by omega
  have hz2' : decide ((60 : Int) < (n : Int)) = false := decide_eq_false hz2
  have HNew := Lib.hid (fun w1 => new_any 9 (by omega) (by omega) w1)
  clear hk hP q1 q2 h0 e0 hT hT1 hlk
  go_enter Tryd.func7, Tryd.ntmps7
  go_wp2_with fail
  refine HL.out.mono ?_
  rintro e w1 ⟨rfl, hb1⟩
  have HB1 := Lib.hid (hbB.trans (hb1.mono hbB.size))
  have HX := Lib.hid (one_new hb1)
  clear hb1
  go_wp2_with fail
  refine (HNew.out _).mono ?_
  rintro e w2 ⟨rfl, hb2, hI2⟩
  have hA2 : Ap w1 w2 noObs _ _ := ⟨hb2, hI2⟩
  have HA2 := Lib.hid hA2
  have HO := Lib.hid (ownW_any _ _ _ w2 (H0.out.below (HB1.out.trans (hb2.mono HB1.out.size))) (by rw [wcells_length]; have := HE.out; omega) (wcells_one l) (by omega))
  clear hb2 hI2 hA2
  go_wp2_with fail
  refine HO.out.mono ?_
  rintro e w3 ⟨⟨vi, rfl, ho⟩, hb3⟩
  obtain ⟨gi, ci, rfl⟩ : ∃ gi ci, vi = .slice (some ⟨gi, 0, none⟩) n ci := by
    rcases ho.2 with ⟨_, h⟩ | ⟨g, cap, cur, hv, _⟩
    · omega
    · exact ⟨g, cap, hv⟩
  have hA3 := HA2.out.later hb3
  have hgi := ho.lt gi rfl
  have hlg := lab_none HA2.out.heap hgi.1
  have hbi : w1.heap.size ≤ gi := Nat.le_trans HA2.out.below.size hgi.1
  have hsl : SlR w3 (.slice (some ⟨gi, 0, none⟩) n ci) l.length (wcells l) := by rw [HE.out]; exact SlR.of_own ho
  have hv := vec_any hA3.heap hA3.below.size _ l hsl (by rw [HE.out]; omega)
  rw [ap_vec l (by rw [HE.out]; exact hn)] at hv
  have HV := Lib.hid hv
  have HA3 := Lib.hid hA3
  have HOi := Lib.hid (And.intro ho (And.intro hlg (And.intro hbi hgi.2)))
  have hgi3 := hgi.2
  clear ho hb3 hA3 hgi hlg hbi hsl hv HO HA2
  go_wp2_with fail
  refine HV.out.mono ?_
  rintro e w4 ⟨rfl, lab4, P4, hI4, hAf4⟩
  have hA4 := HA3.out.after hI4 hAf4
  have ho4 := owns_keeps HOi.out.1 hAf4.keeps (fun b e => by simp only [Value.ownBlock, Option.some.injEq] at e; subst e; exact fun h => h HOi.out.2.1)
  have hl4 := after_lab hAf4 HOi.out.2.2.2 HOi.out.2.1
  have hA5 := (hA4.later ((Below.refl _ _).alloc (Nat.le_refl _) (.cells #[.int .i64 4, .int .i64 0] 28))).later ((Below.refl _ _).alloc (Nat.le_refl _) (.cells #[.int .u8 1, .int .u8 2] 5))
  have ho5 := (ho4.alloc (.cells #[.int .i64 4, .int .i64 0] 28)).alloc (.cells #[.int .u8 1, .int .u8 2] 5)
  have hvb := (Blk.new w4 #[.int .i64 4, .int .i64 0] 28).alloc (.cells #[.int .u8 1, .int .u8 2] 5)
  have hvl := lab_none hA4.heap (Nat.le_refl _)
  have hbs : SlR ((w4.alloc (.cells #[.int .i64 4, .int .i64 0] 28)).alloc (.cells #[.int .u8 1, .int .u8 2] 5)) (.slice (some ⟨w4.heap.size + 1, 0, none⟩) 2 2) ([1, 2] : List Int).length (bcells [1, 2]) := by
    refine ⟨_, _, rfl, Nat.le_refl _, fun _ => ⟨w4.heap.size + 1, 0, rfl, fun j u hj => ?_⟩⟩
    have hB := Blk.new (w4.alloc (.cells #[.int .i64 4, .int .i64 0] 28)) #[.int .u8 1, .int .u8 2] 5
    rw [show (w4.alloc (.cells #[.int .i64 4, .int .i64 0] 28)).heap.size = w4.heap.size + 1 by simp] at hB
    rw [Nat.zero_add]
    rcases j with _ | _ | j
    · simp [bcells] at hj; subst hj; exact hB.cell 0 _ rfl
    · simp [bcells] at hj; subst hj; exact hB.cell 1 _ rfl
    · simp [bcells] at hj
  obtain ⟨W5, hW5⟩ : ∃ W5, (w4.alloc (.cells #[.int .i64 4, .int .i64 0] 28)).alloc (.cells #[.int .u8 1, .int .u8 2] 5) = W5 := ⟨_, rfl⟩
  rw [hW5] at hA5 ho5 hvb hbs
  have hgi5 : gi < W5.heap.size := (ho5.lt gi rfl).2
  have hsl5 : SlR W5 (.slice (some ⟨gi, 0, none⟩) n ci) l.length (wcells l) := by rw [HE.out]; exact SlR.of_own ho5
  have hc := code_any hA5.heap hA5.below.size 0 0 0 _ _ [1, 2] l hbs hsl5 (by simp) (by rw [HE.out]; omega)
  rw [ap_code l (by rw [HE.out]; exact hn)] at hc
  have HC := Lib.hid hc
  have HA5 := Lib.hid hA5
  have HS5 := Lib.hid (And.intro ho5 (And.intro hl4 (And.intro hgi5 (And.intro hvb hvl))))
  have HW5 := Lib.hid hW5
  have HGi := Lib.hid HOi.out.2.2.1
  obtain ⟨bv, hbv⟩ : ∃ bv, w4.heap.size = bv := ⟨_, rfl⟩
  have hvb5 : bv < W5.heap.size := by rw [← hbv]; exact hvb.lt
  have hvl1 : w1.heap.size ≤ bv := by rw [← hbv]; exact hA4.below.size
  have hgv : gi < bv := by rw [← hbv]; exact Nat.lt_of_lt_of_le hgi3 hAf4.keeps.size
  have HV5 := Lib.hid (And.intro hvb5 (And.intro hvl1 hgv))
  rw [hbv] at HC HS5
  clear hA4 ho4 hl4 hA5 ho5 hvb hvl hbs hW5 hsl5 hc hI4 hAf4 HV HOi HA3 hvb5 hvl1 hgi5 hgi3 hgv
  go_wp2_with fail
  rw [HW5.out]
  refine HC.out.mono ?_
  rintro e w6 ⟨rfl, lab6, P6, hI6, hAf6⟩
  have hA6 := HA5.out.after hI6 hAf6
  have ho6 := (owns_keeps HS5.out.1 hAf6.keeps (fun b e => by simp only [Value.ownBlock, Option.some.injEq] at e; subst e; exact fun h => h HS5.out.2.1)).alloc (.cells #[.int .i64 6, .int .i64 1] 28)
  have hl6 := after_lab hAf6 HS5.out.2.2.1 HS5.out.2.1
  have hv6 := (after_blk HA5.out.heap hAf6 HS5.out.2.2.2.1 HS5.out.2.2.2.2).alloc (.cells #[.int .i64 6, .int .i64 1] 28)
  have hvl6 := after_lab hAf6 HV5.out.1 HS5.out.2.2.2.2
  have hc6 := Blk.new w6 #[.int .i64 6, .int .i64 1] 28
  have hcl6 := lab_none hA6.heap (Nat.le_refl _)
  have hA7 := hA6.later ((Below.refl _ _).alloc (Nat.le_refl _) (.cells #[.int .i64 6, .int .i64 1] 28))
  have hbc1 : w1.heap.size ≤ w6.heap.size := hA6.below.size
  clear hbv
  obtain ⟨bc, hbc⟩ : ∃ bc, w6.heap.size = bc := ⟨_, rfl⟩
  rw [hbc] at hc6 hcl6 hbc1
  have hvc : bv < bc := by rw [← hbc]; exact Nat.lt_of_lt_of_le HV5.out.1 hAf6.keeps.size
  obtain ⟨W6, hW6⟩ : ∃ W6, w6.alloc (.cells #[.int .i64 6, .int .i64 1] 28) = W6 := ⟨_, rfl⟩
  rw [hW6] at ho6 hv6 hc6 hA7
  have c2 := HQ.out.2 W6 (HB1.out.trans (hA7.below.mono HB1.out.size))
  have hkz : (k : Int) < (n : Int) := by omega
  have HA7 := Lib.hid hA7
  have HS7 := Lib.hid (And.intro ho6 (And.intro hl6 (And.intro hv6 (And.intro hvl6 (And.intro hc6 (And.intro hcl6 hbc1))))))
  have HW6 := Lib.hid hW6
  have HVC := Lib.hid (And.intro HV5.out.2.2 (And.intro hvc HV5.out.2.1))
  clear hA6 ho6 hl6 hv6 hvl6 hc6 hcl6 hA7 hW6 hbc1 hvc hI6 hAf6 HA5 HS5 HC HV5
  go_wp2_with fail
  rw [HW6.out]
  refine (HP.out _).mono ?_
  rintro e w7 ⟨rfl, rfl⟩
  go_wp2_with fail
  refine (word_any _ _ _).mono ?_
  rintro e w8 ⟨rfl, hb8⟩
  obtain ⟨z, hz⟩ : ∃ z, wrap64 (wrap64 (y.snd.tdiv 2) + 7) = z := ⟨_, rfl⟩
  rw [hz]
  have ho8 := owns_below HS7.out.1 hb8
  obtain ⟨d1, d2⟩ := Visit.wcells_at l k HLk.out
  have c3 := (Row.of_owns ho8).cell _ _ d1
  have c4 := (Row.of_owns ho8).cell _ _ d2
  have f3 := (Row.of_owns ho8).free (k * 2)
  have f4 := (Row.of_owns ho8).free (k * 2 + 1)
  have hk9 : Keeps (fun b => b = gi) w8 ((w8.setCell ⟨gi, k * 2, none⟩ (.int .i64 0)).setCell ⟨gi, k * 2 + 1, none⟩ (.int .i64 z)) := ((Keeps.refl (fun b => b = gi) w8).setCell ⟨gi, k * 2, none⟩ _ fun _ => rfl).setCell ⟨gi, k * 2 + 1, none⟩ _ fun _ => rfl
  have hA9 := (HA7.out.later hb8).keeps hk9 (fun b e => by subst e; exact ⟨HS7.out.2.1, HGi.out⟩)
  have hv9 := (HS7.out.2.2.1.below hb8).keeps hk9 (fun e => by have := HVC.out.1; omega)
  have hc9 := (HS7.out.2.2.2.2.1.below hb8).keeps hk9 (fun e => by have := HVC.out.1; have := HVC.out.2.1; omega)
  obtain ⟨W9, hW9⟩ : ∃ W9, (w8.setCell ⟨gi, k * 2, none⟩ (.int .i64 0)).setCell ⟨gi, k * 2 + 1, none⟩ (.int .i64 z) = W9 := ⟨_, rfl⟩
  rw [hW9] at hA9 hv9 hc9
  have hsz9 : w8.heap.size = W9.heap.size := by rw [← hW9]; simp [World.setCell]
  have hcp := copy_any hA9.heap
  have HCp := Lib.hid hcp
  have HW9 := Lib.hid hW9
  have HA9 := Lib.hid hA9
  have HS9 := Lib.hid (And.intro hv9 (And.intro hc9 hsz9))
  have HLb := Lib.hid (And.intro HS7.out.2.2.2.1 (And.intro HS7.out.2.2.2.2.2.1 HS7.out.2.2.2.2.2.2))
  have HZ := Lib.hid hz
  clear c2 hb8 ho8 d1 d2 hk9 hA9 hv9 hc9 hW9 hcp hz hsz9 HA7 HS7
  go_wp2_with fail
  rw [HW9.out]
  refine HCp.out.mono ?_
  rintro e w10 ⟨rfl, ⟨labg, Pg, hIg⟩, hb10⟩
  have hA10 := HA9.out.later hb10
  have hv10 := HS9.out.1.below hb10
  have hc10 := HS9.out.2.1.below hb10
  have hx10 := (HX.out.below hA10.below)
  have e1 := hv10.cell 0 _ rfl
  have e2 := hv10.cell 1 _ rfl
  have e3 := hx10.cell 0 _ rfl
  have e4 := hx10.cell 1 _ rfl
  have hsa := setAt_any hIg (4, 0) (k : Int) x
  rw [ap_set l k x HLk.out] at hsa
  obtain ⟨gp, hgp⟩ : ∃ gp, W9.heap.size = gp := ⟨_, rfl⟩
  have HA10 := Lib.hid hA10
  rw [hgp] at hIg hsa
  have HSa := Lib.hid hsa
  have HIg := Lib.hid hIg
  have HS10 := Lib.hid (And.intro hv10 hc10)
  have HGp := Lib.hid (show ∀ b l, lab6 b = some l → b < gp by rw [← hgp]; exact fun b l h => (HA9.out.heap.inb b l h).2)
  have HGp2 := Lib.hid (show w1.heap.size ≤ gp by rw [← hgp]; exact HA9.out.below.size)
  have HGp3 := Lib.hid (show bv < gp ∧ bc < gp by rw [← hgp]; exact ⟨HS9.out.1.lt, HS9.out.2.1.lt⟩)
  clear hA10 hv10 hc10 hx10 hsa hIg hb10 HCp
  go_wp2_with fail
  refine HSa.out.mono ?_
  rintro e w11 ⟨rfl, hIg2, hk11⟩
  have hm10 : Mid w1 w10 gp bv bc (apB l) (apB l) lab6 labg P6 Pg := ⟨HA10.out, HIg.out, HS10.out.1, HS10.out.2, HGp.out, ⟨HLb.out.1, HGp3.out.1⟩, ⟨HLb.out.2.1, HGp3.out.2⟩, HGp2.out⟩
  have hm11 := hm10.copy hk11 hIg2
  have e5 := hm11.v.cell 0 _ rfl
  have e6 := hm11.v.cell 1 _ rfl
  have hvo := vecOf_any hm11.h.heap (4, 0)
  rw [ap_vecOf l] at hvo
  have HM11 := Lib.hid hm11
  have HVo := Lib.hid hvo
  clear hm10 hm11 hvo hIg2 hk11 e1 e2 HSa HIg HA10 HS10 HA9 HS9
  go_wp2_with fail
  refine HVo.out.mono ?_
  rintro e w12 ⟨⟨va, rfl, hoa⟩, hb12⟩
  have hm12 := HM11.out.later hb12
  have e7 := hm12.c.cell 0 _ rfl
  have e8 := hm12.c.cell 1 _ rfl
  have hco := codeOf_any hm12.h.heap (6, 1) 0 0 0 [1, 2] l (ap_find1 l)
  obtain ⟨Aa, ca, rfl⟩ := slice_of' hoa
  have HM12 := Lib.hid hm12
  have HCo := Lib.hid hco
  have HOa := Lib.hid hoa
  have HSz12 := Lib.hid hb12.size
  clear hm12 hco hoa hb12 e5 e6
  go_wp2_with fail
  refine HCo.out.mono ?_
  rintro e w13 ⟨⟨vb, vl, rfl, hob, hol, hdis⟩, hb13⟩
  obtain ⟨Ab, cb, rfl⟩ := slice_of' hob
  obtain ⟨Al, cl, rfl⟩ := slice_of' hol
  have hm14 := (HM12.out.later hb13).later ((Below.refl _ _).alloc (Nat.le_refl _) (.cells #[.int .i64 0, .int .i64 0, .int .i64 0, .slice Ab 2 cb, .slice Al l.length cl] 52))
  have hbx := Blk.new w13 #[.int .i64 0, .int .i64 0, .int .i64 0, .slice Ab 2 cb, .slice Al l.length cl] 52
  have hoa14 := (owns_below HOa.out hb13).alloc (.cells #[.int .i64 0, .int .i64 0, .int .i64 0, .slice Ab 2 cb, .slice Al l.length cl] 52)
  have hob14 := hob.alloc (.cells #[.int .i64 0, .int .i64 0, .int .i64 0, .slice Ab 2 cb, .slice Al l.length cl] 52)
  have hol14 := hol.alloc (.cells #[.int .i64 0, .int .i64 0, .int .i64 0, .slice Ab 2 cb, .slice Al l.length cl] 52)
  obtain ⟨bb, hbb⟩ : ∃ bb, w13.heap.size = bb := ⟨_, rfl⟩
  obtain ⟨W14, hW14⟩ : ∃ W14, w13.alloc (.cells #[.int .i64 0, .int .i64 0, .int .i64 0, .slice Ab 2 cb, .slice Al l.length cl] 52) = W14 := ⟨_, rfl⟩
  have hsz13 : ∀ b, (Value.slice Ab 2 cb).ownBlock = some b → b < bb := fun b e => by rw [← hbb]; exact (hob.lt b e).2
  have hsz13' : ∀ b, (Value.slice Al l.length cl).ownBlock = some b → b < bb := fun b e => by rw [← hbb]; exact (hol.lt b e).2
  have hsz13'' : ∀ b, (Value.slice Aa l.length ca).ownBlock = some b → b < w12.heap.size := fun b e => (HOa.out.lt b e).2
  rw [hW14] at hm14 hbx hoa14 hob14 hol14
  rw [hbb] at hbx
  have hl14 : ∀ W, Below W14.heap.size W14 W → SlR W (.slice (some ⟨g0, o0, none⟩) n c0) l.length (wcells l) := fun W hW => by rw [HE.out]; exact H0.out.below (HB1.out.trans ((hm14.h.below.trans (hW.mono hm14.h.below.size)).mono HB1.out.size))
  have hs1 := same_eq _ _ l W14 (SlR.of_own hoa14) (hl14 _ (Below.refl _ _)) (by rw [HE.out]; omega)
  have HS1 := Lib.hid hs1
  have HM14 := Lib.hid hm14
  have HR14 := Lib.hid (And.intro hbx (And.intro hoa14 (And.intro hob14 hol14)))
  have HL14 := Lib.hid hl14
  have HW14 := Lib.hid hW14
  have HSz13 := Lib.hid (And.intro hsz13 (And.intro hsz13' (And.intro hsz13'' hdis)))
  clear hm14 hbx hoa14 hob14 hol14 hl14 hs1 hW14 hsz13 hsz13' hsz13'' hdis hob hol hb13 HCo HOa HM12 e7 e8 e3 e4
  go_wp2_with fail
  rw [HW14.out]
  refine HS1.out.mono ?_
  rintro e w15 ⟨rfl, hb15⟩
  have hbx15 := HR14.out.1.below hb15
  have e1 := hbx15.cell 4 _ rfl
  have hs2 := same_eq _ _ l w15 (SlR.of_own (owns_below HR14.out.2.2.2 hb15)) (HL14.out _ hb15) (by rw [HE.out]; omega)
  have HS2 := Lib.hid hs2
  have HB15 := Lib.hid hb15
  clear hbx15 hb15 hs2 HS1
  go_wp2_with fail
  refine HS2.out.mono ?_
  rintro e w16 ⟨rfl, hb16⟩
  have hb16' := HB15.out.trans (hb16.mono HB15.out.size)
  have hbx16 := HR14.out.1.below hb16'
  have e2 := hbx16.cell 3 _ rfl
  have HB16 := Lib.hid hb16'
  clear hb16 hb16' hbx16 HS2 HB15 e1
  obtain ⟨ga, rfl⟩ : ∃ ga, Aa = some ⟨ga, 0, none⟩ := by
    rcases HR14.out.2.1.2 with ⟨_, h⟩ | ⟨g, cap, cur, hv, _⟩
    · have := HLk.out; omega
    · exact ⟨g, by cases hv; rfl⟩
  obtain ⟨gb, rfl⟩ : ∃ gb, Ab = some ⟨gb, 0, none⟩ := by
    rcases HR14.out.2.2.1.2 with ⟨_, h⟩ | ⟨g, cap, cur, hv, _⟩
    · simp at h
    · exact ⟨g, by cases hv; rfl⟩
  obtain ⟨gl, rfl⟩ : ∃ gl, Al = some ⟨gl, 0, none⟩ := by
    rcases HR14.out.2.2.2.2 with ⟨_, h⟩ | ⟨g, cap, cur, hv, _⟩
    · have := HLk.out; omega
    · exact ⟨g, by cases hv; rfl⟩
  have hga : w11.heap.size ≤ ga := (HR14.out.2.1.lt ga rfl).1
  have hgl : w12.heap.size ≤ gl := (HR14.out.2.2.2.lt gl rfl).1
  have hgb : w12.heap.size ≤ gb := (HR14.out.2.2.1.lt gb rfl).1
  have hga2 : ga < w12.heap.size := HSz13.out.2.2.1 ga rfl
  have hgl2 : gl < bb := HSz13.out.2.1 gl rfl
  have hgb2 : gb < bb := HSz13.out.1 gb rfl
  have hne1 : ga ≠ gl := by omega
  have hne2 : ga ≠ gb := by omega
  have hne3 : gl ≠ gb := fun e => HSz13.out.2.2.2 gb rfl (by rw [← e]; rfl)
  have hne1' : gl ≠ ga := fun e => hne1 e.symm
  have hne2' : gb ≠ ga := fun e => hne2 e.symm
  have hne3' : gb ≠ gl := fun e => hne3 e.symm
  obtain ⟨d1, d2⟩ := Visit.wcells_at l k HLk.out
  have hlk2 := HLk.out
  have hkl : (k : Int) < (l.length : Int) := by omega
  have HRow := Lib.hid (fun W (hW : Below w16.heap.size w16 W) => And.intro ((Row.of_owns (owns_below HR14.out.2.1 (HB16.out.trans (hW.mono HB16.out.size)))).cell _ _ d1) (And.intro ((Row.of_owns (owns_below HR14.out.2.1 (HB16.out.trans (hW.mono HB16.out.size)))).cell _ _ d2)
    (And.intro ((Row.of_owns (owns_below HR14.out.2.2.2 (HB16.out.trans (hW.mono HB16.out.size)))).cell _ _ d1) (And.intro ((Row.of_owns (owns_below HR14.out.2.2.2 (HB16.out.trans (hW.mono HB16.out.size)))).cell _ _ d2) ((Row.of_owns (owns_below HR14.out.2.2.1 (HB16.out.trans (hW.mono HB16.out.size)))).cell 0 (.int .u8 1) rfl)))))
  have HFr := Lib.hid (fun W (hW : Below w16.heap.size w16 W) => And.intro ((Row.of_owns (owns_below HR14.out.2.1 (HB16.out.trans (hW.mono HB16.out.size)))).free) (And.intro ((Row.of_owns (owns_below HR14.out.2.2.2 (HB16.out.trans (hW.mono HB16.out.size)))).free) ((Row.of_owns (owns_below HR14.out.2.2.1 (HB16.out.trans (hW.mono HB16.out.size)))).free)))
  have hF16 : ∀ b, (b = ga ∨ b = gl ∨ b = gb) → w11.heap.size ≤ b ∧ b < bb := fun b e => by
    have := HSz12.out
    rcases e with e | e | e <;> subst e <;> omega
  have hg0 : ∀ W, Keeps (fun b => b = ga ∨ b = gl ∨ b = gb) w16 W → W.cell? ⟨g0, o0 + k * 2 + 1, none⟩ = some (.int .i64 y.2) := fun W hW => by
    have hmb := HM11.out.h.below
    have h11 : w.heap.size ≤ w11.heap.size := Nat.le_trans HB1.out.size hmb.size
    have hB : Below w.heap.size w w16 := HB1.out.trans (((HM14.out.h.below).trans (HB16.out.mono HM14.out.h.below.size)).mono HB1.out.size)
    exact HQ.out.2 W (hB.trans (hW.below hB.size fun b e => Nat.le_trans h11 (hF16 b e).1))
  have hbx16 := HR14.out.1.below HB16.out
  have hbxk : ∀ W, Keeps (fun b => b = ga ∨ b = gl ∨ b = gb) w16 W → Blk W bb #[.int .i64 0, .int .i64 0, .int .i64 0, .slice (some ⟨gb, 0, none⟩) 2 cb, .slice (some ⟨gl, 0, none⟩) l.length cl] 52 := fun W hW => hbx16.keeps hW fun e => by have := (hF16 _ e).2; omega
  have HG0 := Lib.hid hg0
  have HBk := Lib.hid hbxk
  have HF16 := Lib.hid hF16
  have HBx := Lib.hid (Below.refl w16.heap.size w16).drew
  have HFga := Lib.hid (show ∀ (p : Addr), p.block = ga → (p.block = ga ∨ p.block = gl ∨ p.block = gb) from fun p e => .inl e)
  have HFgl := Lib.hid (show ∀ (p : Addr), p.block = gl → (p.block = ga ∨ p.block = gl ∨ p.block = gb) from fun p e => .inr (.inl e))
  have HFgb := Lib.hid (show ∀ (p : Addr), p.block = gb → (p.block = ga ∨ p.block = gl ∨ p.block = gb) from fun p e => .inr (.inr e))
  clear hga hgl hgb hga2 hgl2 hgb2 hg0 hbxk hF16 hbx16 d1 d2
  have HS := Lib.hid (show ∀ W, Keeps (fun b => b = ga ∨ b = gl ∨ b = gb) w16 W → W.cell? ⟨bb, 4, none⟩ = some (.slice (some ⟨gl, 0, none⟩) l.length cl) ∧ W.cell? ⟨bb, 3, none⟩ = some (.slice (some ⟨gb, 0, none⟩) 2 cb) ∧ W.cell? ⟨g0, o0 + k * 2 + 1, none⟩ = some (.int .i64 y.2) from fun W hW => ⟨(HBk.out W hW).cell 4 _ rfl, (HBk.out W hW).cell 3 _ rfl, HG0.out W hW⟩)
  have HKx : Hid (Keeps (fun b => b = ga ∨ b = gl ∨ b = gb) w16 w16.drew) := Keeps.of_below HBx.out
  have HS2 := Lib.hid (fun (W : World) (hW : Keeps (fun b => b = ga ∨ b = gl ∨ b = gb) w16 W) (u1 u2 : Value) => HS.out ((W.setCell ⟨ga, k * 2, none⟩ u1).setCell ⟨ga, k * 2 + 1, none⟩ u2) ((hW.setCell ⟨ga, k * 2, none⟩ u1 fun _ => .inl rfl).setCell ⟨ga, k * 2 + 1, none⟩ u2 fun _ => .inl rfl))
  have HS4 := Lib.hid (fun (W : World) (hW : Keeps (fun b => b = ga ∨ b = gl ∨ b = gb) w16 W) (u1 u2 u3 u4 : Value) => HS.out ((((W.setCell ⟨ga, k * 2, none⟩ u1).setCell ⟨ga, k * 2 + 1, none⟩ u2).setCell ⟨gl, k * 2, none⟩ u3).setCell ⟨gl, k * 2 + 1, none⟩ u4) ((((hW.setCell ⟨ga, k * 2, none⟩ u1 fun _ => .inl rfl).setCell ⟨ga, k * 2 + 1, none⟩ u2 fun _ => .inl rfl).setCell ⟨gl, k * 2, none⟩ u3 fun _ => .inr (.inl rfl)).setCell ⟨gl, k * 2 + 1, none⟩ u4 fun _ => .inr (.inl rfl)))
  have HS5 := Lib.hid (fun (W : World) (hW : Keeps (fun b => b = ga ∨ b = gl ∨ b = gb) w16 W) (u1 u2 u3 u4 u5 : Value) => HS.out (((((W.setCell ⟨ga, k * 2, none⟩ u1).setCell ⟨ga, k * 2 + 1, none⟩ u2).setCell ⟨gl, k * 2, none⟩ u3).setCell ⟨gl, k * 2 + 1, none⟩ u4).setCell ⟨gb, 0, none⟩ u5) (((((hW.setCell ⟨ga, k * 2, none⟩ u1 fun _ => .inl rfl).setCell ⟨ga, k * 2 + 1, none⟩ u2 fun _ => .inl rfl).setCell ⟨gl, k * 2, none⟩ u3 fun _ => .inr (.inl rfl)).setCell ⟨gl, k * 2 + 1, none⟩ u4 fun _ => .inr (.inl rfl)).setCell ⟨gb, 0, none⟩ u5 fun _ => .inr (.inr rfl)))
  go_wp2_with fail
  go_region_held3 (fun w' => w'.cell? ⟨bb, 4, none⟩ = some (.slice (some ⟨gl, 0, none⟩) l.length cl) ∧ w'.cell? ⟨bb, 3, none⟩ = some (.slice (some ⟨gb, 0, none⟩) 2 cb) ∧ w'.cell? ⟨g0, o0 + k * 2 + 1, none⟩ = some (.int .i64 y.2))
    (first
      | (have s0 := HS5.out _ HKx.out; with_reducible exact s0 _ _ _ _ _)
      | (have s0 := HS4.out _ HKx.out; with_reducible exact s0 _ _ _ _)
      | (have s0 := HS2.out _ HKx.out; with_reducible exact s0 _ _)
      | (have s0 := HS.out _ HKx.out; with_reducible exact s0))
    (first
      | (go_at_call 22; refine (word_any _ _ _).mono ?_; rintro e w17 ⟨rfl, hb17⟩; have HBx : Hid (Below w16.heap.size w16 w17) := HBx.out.trans (hb17.mono HBx.out.size); have HKx : Hid (Keeps (fun b => b = ga ∨ b = gl ∨ b = gb) w16 w17) := Keeps.of_below HBx.out; obtain ⟨r1, r2, r3, r4, r5⟩ := HRow.out _ HBx.out; obtain ⟨f1, f2, f3⟩ := HFr.out _ HBx.out; clear hb17))
  obtain ⟨zz, hzz⟩ : ∃ zz, IntKind.i64.wrap (IntKind.i64.wrap (y.snd.tdiv 2) + 7) = zz := ⟨_, rfl⟩
  rw [hzz]
  obtain ⟨W19, hW19⟩ : ∃ W19, ((((w17.setCell ⟨ga, k * 2, none⟩ (.int .i64 0)).setCell ⟨ga, k * 2 + 1, none⟩ (.int .i64 zz)).setCell ⟨gl, k * 2, none⟩ (.int .i64 0)).setCell ⟨gl, k * 2 + 1, none⟩ (.int .i64 zz)).setCell ⟨gb, 0, none⟩ (.int .u8 9) = W19 := ⟨_, rfl⟩
  have hk19 : Keeps (fun b => b = ga ∨ b = gl ∨ b = gb) w16 W19 := by
    rw [← hW19]
    exact ((((HKx.out.setCell ⟨ga, k * 2, none⟩ _ fun _ => .inl rfl).setCell ⟨ga, k * 2 + 1, none⟩ _ fun _ => .inl rfl).setCell ⟨gl, k * 2, none⟩ _ fun _ => .inr (.inl rfl)).setCell ⟨gl, k * 2 + 1, none⟩ _ fun _ => .inr (.inl rfl)).setCell ⟨gb, 0, none⟩ _ fun _ => .inr (.inr rfl)
  rw [hW19]
  have hm19 := HM11.out.keeps (HM14.out.later HB16.out) hk19 (fun b e => (HF16.out b e).1)
  have hb19 := HBk.out W19 hk19
  have hx19 := HX.out.below hm19.h.below
  have e5 := hm19.v.cell 0 _ rfl
  have e6 := hm19.v.cell 1 _ rfl
  have hvo := vecOf_any hm19.h.heap (4, 0)
  rw [ap_vecOf l] at hvo
  have HM19 := Lib.hid hm19
  have HVo := Lib.hid hvo
  have HB19 := Lib.hid hb19
  have hbb11 : w11.heap.size ≤ bb := Nat.le_trans (HF16.out ga (.inl rfl)).1 (Nat.le_of_lt (HF16.out ga (.inl rfl)).2)
  have hbb19 := hb19.lt
  clear hm19 hvo hk19 hb19 hx19 r1 r2 r3 r4 r5 f1 f2 f3 HBx HKx HS HS2 HS4 HS5 HRow HFr HG0 HBk HF16 HFga HFgl HFgb hW19 hzz e2 hne1 hne2 hne3 hne1' hne2' hne3'
  go_wp2_with fail
  refine HVo.out.mono ?_
  rintro e w20 ⟨⟨va2, rfl, hoa⟩, hb20⟩
  obtain ⟨Aa2, ca2, rfl⟩ := slice_of' hoa
  have hm20 := HM19.out.later hb20
  have e7 := hm20.c.cell 0 _ rfl
  have e8 := hm20.c.cell 1 _ rfl
  have hco := codeOf_any hm20.h.heap (6, 1) 0 0 0 [1, 2] l (ap_find1 l)
  have HM20 := Lib.hid hm20
  have HCo := Lib.hid hco
  have HOa := Lib.hid hoa
  have HB20 := Lib.hid (HB19.out.below hb20)
  have HSz20 := Lib.hid hb20.size
  clear hm20 hco hoa hb20 e5 e6
  go_wp2_with fail
  refine HCo.out.mono ?_
  rintro e w21 ⟨⟨vb2, vl2, rfl, hob, hol, hdis⟩, hb21⟩
  obtain ⟨Ab2, cb2, rfl⟩ := slice_of' hob
  obtain ⟨Al2, cl2, rfl⟩ := slice_of' hol
  have hm21 := HM20.out.later hb21
  have hb21' := HB20.out.below hb21
  have b0 := hb21'.cell 0 _ rfl
  have b1 := hb21'.cell 1 _ rfl
  have b2 := hb21'.cell 2 _ rfl
  have b3 := hb21'.cell 3 _ rfl
  have b4 := hb21'.cell 4 _ rfl
  have bf := hb21'.free
  have hk22 : Keeps (fun b => b = bb) w21 (((((w21.setCell ⟨bb, 0, none⟩ (.int .i64 0)).setCell ⟨bb, 1, none⟩ (.int .i64 0)).setCell ⟨bb, 2, none⟩ (.int .i64 0)).setCell ⟨bb, 3, none⟩ (.slice Ab2 2 cb2)).setCell ⟨bb, 4, none⟩ (.slice Al2 l.length cl2)) :=
    (((((Keeps.refl (fun b => b = bb) w21).setCell ⟨bb, 0, none⟩ _ fun _ => rfl).setCell ⟨bb, 1, none⟩ _ fun _ => rfl).setCell ⟨bb, 2, none⟩ _ fun _ => rfl).setCell ⟨bb, 3, none⟩ _ fun _ => rfl).setCell ⟨bb, 4, none⟩ _ fun _ => rfl
  have hbx22 : Blk (((((w21.setCell ⟨bb, 0, none⟩ (.int .i64 0)).setCell ⟨bb, 1, none⟩ (.int .i64 0)).setCell ⟨bb, 2, none⟩ (.int .i64 0)).setCell ⟨bb, 3, none⟩ (.slice Ab2 2 cb2)).setCell ⟨bb, 4, none⟩ (.slice Al2 l.length cl2)) bb #[.int .i64 0, .int .i64 0, .int .i64 0, .slice Ab2 2 cb2, .slice Al2 l.length cl2] 52 :=
    ((((hb21'.set 0 _).set 1 _).set 2 _).set 3 _).set 4 _
  obtain ⟨W22, hW22⟩ : ∃ W22, ((((w21.setCell ⟨bb, 0, none⟩ (.int .i64 0)).setCell ⟨bb, 1, none⟩ (.int .i64 0)).setCell ⟨bb, 2, none⟩ (.int .i64 0)).setCell ⟨bb, 3, none⟩ (.slice Ab2 2 cb2)).setCell ⟨bb, 4, none⟩ (.slice Al2 l.length cl2) = W22 := ⟨_, rfl⟩
  rw [hW22] at hk22 hbx22
  have hm22 := HM11.out.keeps hm21 hk22 (fun b e => by subst e; exact hbb11)
  have hoa22 := owns_keeps (owns_below HOa.out hb21) hk22 (fun b hb e => by have := (HOa.out.lt b hb).1; omega)
  have hob22 := owns_keeps hob hk22 (fun b hb e => by have := (hob.lt b hb).1; have := HSz20.out; omega)
  have hol22 := owns_keeps hol hk22 (fun b hb e => by have := (hol.lt b hb).1; have := HSz20.out; omega)
  have g1 := hm21.v.cell 0 _ rfl
  have g2 := hm21.v.cell 1 _ rfl
  have hnb : bb ≠ bv := fun e => by have := hm21.bvl.2; have := HM11.out.v.lt; omega
  have hnb' : bv ≠ bb := fun e => hnb e.symm
  have hat := (at_any hm22.g (4, 0) (k : Int)).at
  rw [ap_at l k x HLk.out] at hat
  have HM22 := Lib.hid hm22
  have HAt := Lib.hid hat
  have HR22 := Lib.hid (And.intro hbx22 (And.intro hoa22 (And.intro hob22 hol22)))
  have HW22 := Lib.hid hW22
  have HLow := Lib.hid (show ∀ b, W19.heap.size ≤ b → labg b = none from fun b hb => lab_none HM19.out.g hb)
  have HSz := Lib.hid (And.intro (show ∀ b, (Value.slice Aa2 l.length ca2).ownBlock = some b → W19.heap.size ≤ b from fun b hb => (HOa.out.lt b hb).1) (And.intro (show ∀ b, (Value.slice Ab2 2 cb2).ownBlock = some b → W19.heap.size ≤ b from fun b hb => Nat.le_trans HSz20.out (hob.lt b hb).1) (show ∀ b, (Value.slice Al2 l.length cl2).ownBlock = some b → W19.heap.size ≤ b from fun b hb => Nat.le_trans HSz20.out (hol.lt b hb).1)))
  clear hm21 hb21' hk22 hbx22 hm22 hoa22 hob22 hol22 hat hob hol hdis hb21 hW22 HCo HOa HM20 e7 e8
  go_wp2_with fail
  rw [HW22.out]
  clear b0 b1 b2 b3 b4 bf g1 g2
  refine HAt.out.mono ?_
  rintro e w23 ⟨rfl, hb23⟩
  have hbA : Below W22.heap.size W22 (w23.alloc (.cells #[.int .i64 x.1, .int .i64 x.2] 28)) := hb23.alloc hb23.size _
  have hm24 := HM22.out.later hbA
  have hd24 := Blk.new w23 #[.int .i64 x.1, .int .i64 x.2] 28
  have hbx24 := HR22.out.1.below hbA
  have hoa24 := owns_below HR22.out.2.1 hbA
  have hob24 := owns_below HR22.out.2.2.1 hbA
  have hol24 := owns_below HR22.out.2.2.2 hbA
  have hcl := collect_any hm24.g (Nat.le_of_lt (Nat.lt_of_le_of_lt (Nat.le_refl _) hm24.g.blk.lt)) (.slice none 0 0) [] (nil_reads _ _ _) (by simp)
  rw [ap_gone] at hcl
  have hbd : w11.heap.size ≤ w23.heap.size := Nat.le_trans hbb11 (Nat.le_trans (Nat.le_of_lt HR22.out.1.lt) hb23.size)
  obtain ⟨bd, hbde⟩ : ∃ bd, w23.heap.size = bd := ⟨_, rfl⟩
  obtain ⟨W24, hW24⟩ : ∃ W24, w23.alloc (.cells #[.int .i64 x.1, .int .i64 x.2] 28) = W24 := ⟨_, rfl⟩
  rw [hW24] at hm24 hd24 hbx24 hoa24 hob24 hol24 hcl
  rw [hbde] at hd24 hbd
  have HM24 := Lib.hid hm24
  have HR24 := Lib.hid (And.intro hd24 (And.intro hbx24 (And.intro hoa24 (And.intro hob24 hol24))))
  have HCl := Lib.hid hcl
  have HW24 := Lib.hid hW24
  have hNo : ∀ b, w11.heap.size ≤ b → ¬ Of labg b := fun b hb e => e (lab_none HM11.out.g hb)
  have HNo := Lib.hid hNo
  have h19 : w11.heap.size ≤ W19.heap.size := Nat.le_trans hbb11 (Nat.le_of_lt hbb19)
  clear hbA hm24 hd24 hbx24 hoa24 hob24 hol24 hcl hW24 hNo hb23 HAt
  go_wp2_with fail
  rw [HW24.out]
  refine HCl.out.mono ?_
  rintro e w25 ⟨rfl, lab25, P25, hI25, hA25⟩
  have hm25 := HM24.out.copy hA25.keeps hI25
  have hd25 := HR24.out.1.keeps hA25.keeps (HNo.out _ hbd)
  have hbx25 := HR24.out.2.1.keeps hA25.keeps (HNo.out _ hbb11)
  have hoa25 := owns_keeps HR24.out.2.2.1 hA25.keeps (fun b hb => HNo.out b (Nat.le_trans h19 (HSz.out.1 b hb)))
  have hob25 := owns_keeps HR24.out.2.2.2.1 hA25.keeps (fun b hb => HNo.out b (Nat.le_trans h19 (HSz.out.2.1 b hb)))
  have hol25 := owns_keeps HR24.out.2.2.2.2 hA25.keeps (fun b hb => HNo.out b (Nat.le_trans h19 (HSz.out.2.2 b hb)))
  have hl25 : ∀ W, Below w25.heap.size w25 W → SlR W (.slice (some ⟨g0, o0, none⟩) n c0) l.length (wcells l) := fun W hW => by rw [HE.out]; exact H0.out.below (HB1.out.trans ((hm25.h.below.trans (hW.mono hm25.h.below.size)).mono HB1.out.size))
  have hs1 := same_eq _ _ l w25 (SlR.of_own hoa25) (hl25 _ (Below.refl _ _)) (by rw [HE.out]; omega)
  have HM25 := Lib.hid hm25
  have HR25 := Lib.hid (And.intro hd25 (And.intro hbx25 (And.intro hob25 hol25)))
  have HL25 := Lib.hid hl25
  have HS1 := Lib.hid hs1
  clear hm25 hd25 hbx25 hoa25 hob25 hol25 hl25 hs1 hI25 hA25 HCl HM24 HR24
  go_wp2_with fail
  refine HS1.out.mono ?_
  rintro e w26 ⟨rfl, hb26⟩
  have e1 := (HR25.out.2.1.below hb26).cell 4 _ rfl
  have hs2 := same_eq _ _ l w26 (SlR.of_own (owns_below HR25.out.2.2.2 hb26)) (HL25.out _ hb26) (by rw [HE.out]; omega)
  have HS2 := Lib.hid hs2
  have HB26 := Lib.hid hb26
  clear hb26 hs2 HS1
  go_wp2_with fail
  refine HS2.out.mono ?_
  rintro e w27 ⟨rfl, hb27⟩
  have hb27' := HB26.out.trans (hb27.mono HB26.out.size)
  have e2 := (HR25.out.2.1.below hb27').cell 3 _ rfl
  obtain ⟨gb2, rfl⟩ : ∃ gb2, Ab2 = some ⟨gb2, 0, none⟩ := by
    rcases HR25.out.2.2.1.2 with ⟨_, h⟩ | ⟨g, cap, cur, hv, _⟩
    · simp at h
    · exact ⟨g, by cases hv; rfl⟩
  have e3 := ((Row.of_owns HR25.out.2.2.1).below hb27').cell 0 (.int .u8 1) rfl
  have e4 := (HR25.out.1.below hb27').cell 0 _ rfl
  have e5 := (HR25.out.1.below hb27').cell 1 _ rfl
  have hm27 := HM25.out.later hb27'
  have hx27 := HX.out.below hm27.h.below
  have e6 := hx27.cell 0 _ rfl
  have e7 := hx27.cell 1 _ rfl
  have hmy := many_any hm27.h.heap
  rw [ap_many l] at hmy
  have HMy := Lib.hid hmy
  have HM27 := Lib.hid hm27
  clear hb27 hb27' hm27 hx27 hmy HS2 e1
  go_wp2_with fail
  refine HMy.out.mono ?_
  rintro e w28 ⟨rfl, q28, hw28⟩
  have hk28 : Below w27.heap.size w27 w28 := by subst hw28; exact ⟨rfl, rfl, rfl, Nat.le_refl _, fun _ _ => rfl⟩
  have hm28 := HM27.out.later hk28
  have hmy := many_any hm28.g
  rw [none_many] at hmy
  have HMy := Lib.hid hmy
  have HM28 := Lib.hid hm28
  clear hw28 hk28 hm28 hmy HM27
  go_wp2_with fail
  refine HMy.out.mono ?_
  rintro e w29 ⟨rfl, q29, hw29⟩
  have hk29 : Below w28.heap.size w28 w29 := by subst hw29; exact ⟨rfl, rfl, rfl, Nat.le_refl _, fun _ _ => rfl⟩
  have hm29 := HM28.out.later hk29
  have HLi := Lib.hid (limit_any hm29.g)
  have HF := Lib.hid (HB1.out.trans (hm29.h.below.mono HB1.out.size))
  clear hw29 hk29 hm29 HM28
  go_wp2_with fail
  refine HLi.out.mono ?_
  rintro e w30 ⟨rfl, rfl⟩
  go_wp2_with fail
  go_ret
  exact ⟨rfl, HF.out⟩

theorem light (A0 : Option Addr) (n c0 : Nat) (i : Int) (x : Wd) (w : World) (hn : n ≤ 9223372036854775807) (h : n = 0 ∨ 60 < n) (hT : Tabs w) :
    Calls Tryd.prog 7 #[.slice A0 n c0, .int .i64 i, wd x] w fun e w' => e = .returned (.bool true) ∧ Below w.heap.size w w' := by
  have hbB := box_below w x
  have HL := Lib.hid (lives_any _ (hT.below hbB))
  have HB := Lib.hid hbB
  clear hbB hT
  rcases h with h | h
  · subst h
    go_enter Tryd.func7, Tryd.ntmps7
    go_wp2_with fail
    refine HL.out.mono ?_
    rintro e w1 ⟨rfl, hb1⟩
    have HF := Lib.hid (HB.out.trans (hb1.mono HB.out.size))
    clear hb1
    go_wp2_with fail
    go_ret
    exact ⟨rfl, HF.out⟩
  · have hz1 : ((n : Int) == 0) = false := beq_eq_false_iff_ne.2 (by omega)
    have hz1' : (n == 0) = false := beq_eq_false_iff_ne.2 (by omega)
    have hz2 : (60 : Int) < (n : Int) := by omega
    go_enter Tryd.func7, Tryd.ntmps7
    go_wp2_with fail
    refine HL.out.mono ?_
    rintro e w1 ⟨rfl, hb1⟩
    have HF := Lib.hid (HB.out.trans (hb1.mono HB.out.size))
    clear hb1
    go_wp2_with fail
    go_ret
    exact ⟨rfl, HF.out⟩
theorem walk (v0 : Value) (l0 : List Wd) (i : Int) (x : Wd) (w : World) (h0 : SlR w v0 l0.length (wcells l0)) (b0 : l0.length ≤ 9223372036854775807) (hT : Tabs w) :
    Calls Tryd.prog 7 #[v0, .int .i64 i, wd x] w fun e w' => e = .returned (.bool true) ∧ Below w.heap.size w w' := by
  obtain ⟨A0, c0, rfl, k0, r0⟩ := h0
  by_cases hl : l0.length = 0 ∨ 60 < l0.length
  · exact light A0 _ c0 i x w b0 hl hT
  · exact core A0 _ c0 l0 i x w ⟨_, _, rfl, k0, r0⟩ rfl (by omega) (by omega) hT
end Go.Proofs.YtcdlfgggmigcnaaDoor.LawApart
