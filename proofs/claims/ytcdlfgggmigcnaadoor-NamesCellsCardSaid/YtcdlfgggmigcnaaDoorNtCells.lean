/- NamesCells: the walk of the law. -/
import Derived.Test.YtcdlfgggmigcnaaDoorNtProps2
import Derived.Test.YtcdlfgggmigcnaaDoorNtLives
import Derived.Test.YtcdlfgggmigcnaaDoorNtKit
import Derived.Deep.RegionHeld3
namespace Go.Proofs.YtcdlfgggmigcnaaDoor.Nt
set_option maxRecDepth 100000
open Go.RowKit
open Go.Proofs.YtcdlfgggmigcnaaDoor.Own Go.Proofs.YtcdlfgggmigcnaaDoor.Strs Go.Proofs.YtcdlfgggmigcnaaDoor.Clone

theorem define_at {t : Tb} {k : Nat} {s : Sy} (hs : t.syms[k]? = some s) (hk : 2 ≤ k) (x : Wd) (has : Bool) : defineO t (k : Int) x has = (0, ⟨t.syms.set k ⟨s.name, x, has, s.props⟩, t.find⟩) := by
  unfold defineO
  rw [symO_nat, hs]
  simp only
  rw [if_neg (by omega), Int.toNat_natCast]
theorem setProp_at {t : Tb} {k m : Nat} {s : Sy} (hs : t.syms[k]? = some s) (hm : m < t.syms.length) (x : Wd) : setPropO t (k : Int) (m : Int) x = (0, ⟨t.syms.set k ⟨s.name, s.fn, s.has, putL s.props (m : Int) x⟩, t.find⟩) := by
  unfold setPropO
  rw [symO_nat, symO_nat, hs, List.getElem?_eq_getElem hm]
  simp only
  rw [Int.toNat_natCast]
theorem func_at {t : Tb} {k : Nat} {s : Sy} (hs : t.syms[k]? = some s) : funcO t (k : Int) = (s.fn, s.has) := by
  unfold funcO
  rw [symO_nat, hs]
theorem props_at {t : Tb} {k : Nat} {s : Sy} (hs : t.syms[k]? = some s) : propsO t (k : Int) = s.props := by
  unfold propsO
  rw [symO_nat, hs]
theorem placeN_nil (key : Int) : placeN [] key = 0 := rfl
theorem putL_nil (key : Int) (x : Wd) : putL [] key x = [(key, x)] := rfl
theorem atEnd_nil (key : Int) : AtEnd [] key := .inr ⟨rfl, by simp⟩
theorem hasKey_one (k : Int) (x : Wd) : hasKey [(k, x)] k = true ∧ placeN [(k, x)] k = 0 := by
  have h : placeN [(k, x)] k = 0 := by unfold placeN; simp
  refine ⟨?_, h⟩
  unfold hasKey
  rw [h]
  simp
theorem prop_one {t : Tb} {k : Nat} {s : Sy} {m : Int} {x : Wd} (hs : t.syms[k]? = some s) (hp : s.props = [(m, x)]) : propO t (k : Int) m = (x, true) := by
  unfold propO
  rw [symO_nat, hs]
  simp only
  rw [hp, (hasKey_one m x).1, (hasKey_one m x).2]
  rfl
theorem prop_other {t : Tb} {k : Nat} {s : Sy} {m j : Int} {x : Wd} (hs : t.syms[k]? = some s) (hp : s.props = [(m, x)]) (hj : j ≠ m) : propO t (k : Int) j = ((0, 0), false) := by
  have hk : hasKey [(m, x)] j = false := by
    unfold hasKey placeN
    by_cases h : m < j
    · simp [h]
    · simp [h]; omega
  unfold propO
  rw [symO_nat, hs]
  simp only
  rw [hp, hk]
  rfl
theorem set_at {l : List Sy} {k j : Nat} {s s' : Sy} (h : l[j]? = some s) (hne : k ≠ j) : (l.set k s')[j]? = some s := by rw [List.getElem?_set_ne hne]; exact h
theorem set_me {l : List Sy} {k : Nat} {s s' : Sy} (h : l[k]? = some s) : (l.set k s')[k]? = some s' := List.getElem?_set_self (List.getElem?_eq_some_iff.1 h).1
theorem t0_at (k : Nat) (h : k < 62) : ∃ n, t0.syms[k]? = some (newSy n) := by
  refine ⟨fx[k]'(by rw [fx_length]; exact h), ?_⟩
  show (fx.map newSy)[k]? = _
  rw [List.getElem?_map, List.getElem?_eq_getElem (by rw [fx_length]; exact h)]
  rfl

/-- A table in a world behind w1. -/
structure Cs (w1 wr : World) (tp : Nat) (t : Tb) (lab : Nat → Option TLab) (P : TParts) : Prop where
  tab : TabIs wr w1.heap.size tp t lab P
  below : Below w1.heap.size w1 wr
theorem Cs.later {w1 wr W : World} {tp : Nat} {t : Tb} {lab : Nat → Option TLab} {P : TParts} (h : Cs w1 wr tp t lab P) (hb : Below wr.heap.size wr W) : Cs w1 W tp t lab P := ⟨h.tab.below hb, h.below.trans (hb.mono h.below.size)⟩
theorem Cs.after {w1 wr W : World} {tp : Nat} {t t' : Tb} {lab lab' : Nat → Option TLab} {P P' : TParts} (h : Cs w1 wr tp t lab P) (hI : TabIs W w1.heap.size tp t' lab' P') (hA : TAfter wr W lab lab') : Cs w1 W tp t' lab' P' := ⟨hI, h.below.trans (hA.bel h.tab h.below.size)⟩
/-- A word of the law's own. -/
structure Bx (wr : World) (lab : Nat → Option TLab) (b : Nat) (x : Wd) : Prop where
  blk : Blk wr b #[.int .i64 x.1, .int .i64 x.2] 28
  lab : lab b = none
theorem Bx.later {wr W : World} {lab : Nat → Option TLab} {b : Nat} {x : Wd} (h : Bx wr lab b x) (hb : Below wr.heap.size wr W) : Bx W lab b x := ⟨h.blk.below hb, h.lab⟩
theorem Bx.after {wr W : World} {lab lab' : Nat → Option TLab} {b : Nat} {x : Wd} (h : Bx wr lab b x) (hA : TAfter wr W lab lab') : Bx W lab' b x := by
  refine ⟨h.blk.keeps hA.keeps (by unfold TOf; rw [h.lab]; simp), ?_⟩
  cases hh : lab' b with
  | none => rfl
  | some l =>
    rcases hA.grow b (by unfold TOf; rw [hh]; simp) with e | e
    · exact absurd h.lab e
    · have := h.blk.lt; omega
theorem Bx.new {w1 wr : World} {tp : Nat} {t : Tb} {lab : Nat → Option TLab} {P : TParts} (h : Cs w1 wr tp t lab P) (x : Wd) : Bx (wr.alloc (wboxN x)) lab wr.heap.size x := ⟨Blk.new wr _ _, h.tab.fresh (Nat.le_refl _)⟩

theorem pick_next (r : Nat) (h : r < 62) : pickZ ((r : Int) + 1) 62 = ((if r = 61 then 0 else r + 1 : Nat) : Int) := by
  unfold pickZ
  rw [Int.tmod_eq_emod_of_nonneg (by omega)]
  split <;> split <;> omega
set_option maxHeartbeats 4000000 in
theorem cells_core (a b key : Int) (v u : Wd) (w : World) (hT : Tabs w) :
    Calls Tryd.prog 11 #[.int .i64 a, .int .i64 b, .int .i64 key, wdv v, wdv u] w fun e w' => e = .returned (.bool true) ∧ Below w.heap.size w w' := by
  obtain ⟨p, hp, hPp⟩ := pick_nat a 60 (by omega) (by omega)
  obtain ⟨q, hq, hPq⟩ := pick_nat b 60 (by omega) (by omega)
  obtain ⟨r, hr, hPr⟩ := pick_nat key 62 (by omega) (by omega)
  have hbB : Below w.heap.size w ((w.alloc (wboxN v)).alloc (wboxN u)) := ((Below.refl _ _).alloc (Nat.le_refl _) _).alloc (by simp) _
  have HL := Lib.hid (lives_any _ (hT.below hbB))
  have HT := Lib.hid hT
  have HPp := Lib.hid hPp
  have HPq := Lib.hid hPq
  have HPr := Lib.hid hPr
  have HBB := Lib.hid hbB
  obtain ⟨nx, hnx⟩ := t0_at (2 + p) (by omega)
  obtain ⟨ny, hny⟩ := t0_at (2 + q) (by omega)
  have HX := Lib.hid hnx
  have HY := Lib.hid hny
  clear hT hPp hPq hPr hbB hnx hny
  go_enter Tryd.func11, Tryd.ntmps11
  go_wp2_with fail
  refine HL.out.mono ?_
  rintro e w1 ⟨rfl, hb1⟩
  obtain ⟨m1, m2⟩ := two_new hb1
  have HV := Lib.hid m1
  have HU := Lib.hid m2
  have HB1 := Lib.hid (HBB.out.trans (hb1.mono HBB.out.size))
  have HN := Lib.hid (new_any w1 (HT.out.below HB1.out))
  obtain ⟨tp, htp⟩ : ∃ tp, w1.heap.size + 1 = tp := ⟨_, rfl⟩
  rw [htp] at HN
  clear hb1 m1 m2 htp
  go_wp2_with fail
  refine HN.out.mono ?_
  rintro e w2 ⟨rfl, hb2, lab2, P2, hI2⟩
  have HC2 := Lib.hid (show Cs w1 w2 tp t0 lab2 P2 from ⟨hI2, hb2⟩)
  clear hb2 hI2 HN
  go_wp2_with fail
  refine (HPp.out _).mono ?_
  rintro e w3 ⟨rfl, rfl⟩
  go_wp2_with fail
  refine (HPq.out _).mono ?_
  rintro e w3 ⟨rfl, rfl⟩
  go_wp2_with fail
  refine (HPr.out _).mono ?_
  rintro e w3 ⟨rfl, rfl⟩
  obtain ⟨X, hX⟩ : ∃ X, 2 + p = X := ⟨_, rfl⟩
  obtain ⟨Y, hY⟩ : ∃ Y, 2 + q = Y := ⟨_, rfl⟩
  obtain ⟨X, hX⟩ : ∃ X, 2 + p = X := ⟨_, rfl⟩
  obtain ⟨Y, hY⟩ : ∃ Y, 2 + q = Y := ⟨_, rfl⟩
  obtain ⟨X, hX⟩ : ∃ X, 2 + p = X := ⟨_, rfl⟩
  obtain ⟨Y, hY⟩ : ∃ Y, 2 + q = Y := ⟨_, rfl⟩
  obtain ⟨X, hX⟩ : ∃ X, 2 + p = X := ⟨_, rfl⟩
  obtain ⟨Y, hY⟩ : ∃ Y, 2 + q = Y := ⟨_, rfl⟩
  have hx2 : (2 : Int) + (p : Int) = (X : Int) := by omega
  have hy2 : (2 : Int) + (q : Int) = (Y : Int) := by omega
  have hX2 : 2 ≤ X := by omega
  have hY2 : 2 ≤ Y := by omega
  have hXb : X < 62 := by omega
  have hYb : Y < 62 := by omega
  rw [hX] at HX
  rw [hY] at HY
  clear hX hY hp hq HPp HPq
  have e1 := (HV.out.below HC2.out.below).cell 0 _ rfl
  have e2 := (HV.out.below HC2.out.below).cell 1 _ rfl
  have c1 := setFunc_any HC2.out.tab (X : Int) v
  rw [define_at HX.out hX2] at c1
  have C1 := Lib.hid c1
  have HX1 : Hid ((t0.syms.set X ⟨nx, v, true, []⟩)[X]? = some ⟨nx, v, true, []⟩) := set_me HX.out
  obtain ⟨T1, hT1⟩ : ∃ T1 : Tb, (⟨t0.syms.set X ⟨(newSy nx).name, v, true, (newSy nx).props⟩, t0.find⟩ : Tb) = T1 := ⟨_, rfl⟩
  rw [hT1] at C1
  have HX1 : Hid (T1.syms[X]? = some ⟨nx, v, true, []⟩) := by rw [← hT1]; exact HX1
  have hl1 : T1.syms.length = 62 := by rw [← hT1, List.length_set, t0_length]
  clear c1
  by_cases hxy : X = Y
  · subst hxy
    have hz : ((X : Int) == (X : Int)) = true := beq_iff_eq.2 rfl
    clear hT1
    go_wp2_with fail
    refine C1.out.mono ?_
    rintro e w4 ⟨rfl, lab4, P4, hI4, hA4⟩
    have hC4 := HC2.out.after hI4 hA4
    have e3 := (HU.out.below hC4.below).cell 0 _ rfl
    have e4 := (HU.out.below hC4.below).cell 1 _ rfl
    have c2 := setFunc_any hC4.tab (X : Int) u
    rw [define_at HX1.out hX2] at c2
    have HX2 : Hid ((T1.syms.set X ⟨nx, u, true, []⟩)[X]? = some ⟨nx, u, true, []⟩) := set_me HX1.out
    have HC4 := Lib.hid hC4
    have C2 := Lib.hid c2
    clear c2 hC4 hI4 hA4 C1 e1 e2
    go_wp2_with fail
    refine C2.out.mono ?_
    rintro e w5 ⟨rfl, lab5, P5, hI5, hA5⟩
    have hC5 := HC4.out.after hI5 hA5
    have c3 := clearFunc_any hC5.tab (X : Int)
    rw [define_at HX2.out hX2] at c3
    have HX3 : Hid (((T1.syms.set X ⟨nx, u, true, []⟩).set X ⟨nx, (0, 0), false, []⟩)[X]? = some ⟨nx, (0, 0), false, []⟩) := set_me HX2.out
    have HC5 := Lib.hid hC5
    have C3 := Lib.hid c3
    clear c3 hC5 hI5 hA5 C2 e3 e4 HC4
    go_wp2_with fail
    refine C3.out.mono ?_
    rintro e w6 ⟨rfl, lab6, P6, hI6, hA6⟩
    have hC6 := HC5.out.after hI6 hA6
    have c4 := clearFunc_any hC6.tab (X : Int)
    rw [define_at HX3.out hX2] at c4
    have HC6 := Lib.hid hC6
    have C4 := Lib.hid c4
    clear c4 hC6 hI6 hA6 C3 HC5
    go_wp2_with fail
    refine C4.out.mono ?_
    rintro e w7 ⟨rfl, lab7, P7, hI7, hA7⟩
    have HF := Lib.hid (HB1.out.trans ((HC6.out.after hI7 hA7).below.mono HB1.out.size))
    clear hI7 hA7 C4 HC6
    go_wp2_with fail
    go_ret
    exact ⟨rfl, HF.out⟩
  · have hz : ((X : Int) == (Y : Int)) = false := beq_eq_false_iff_ne.2 (by omega)
    have hz' : (X == Y) = false := beq_eq_false_iff_ne.2 hxy
    have HY1 : Hid (T1.syms[Y]? = some (newSy ny)) := by rw [← hT1]; exact set_at HY.out hxy
    have hyx : ¬ Y = X := fun e => hxy e.symm
    clear hT1
    go_wp2_with fail
    refine C1.out.mono ?_
    rintro e w4 ⟨rfl, lab4, P4, hI4, hA4⟩
    have hC4 := HC2.out.after hI4 hA4
    have e3 := (HU.out.below hC4.below).cell 0 _ rfl
    have e4 := (HU.out.below hC4.below).cell 1 _ rfl
    have c2 := setProp_any hC4.tab hC4.below.size (X : Int) (r : Int) u (fun s hs => by rw [symO_nat, HX1.out] at hs; cases hs; exact atEnd_nil _)
    rw [setProp_at HX1.out (by rw [hl1]; exact hr)] at c2
    obtain ⟨T2, hT2⟩ : ∃ T2 : Tb, (⟨T1.syms.set X ⟨nx, v, true, [((r : Int), u)]⟩, T1.find⟩ : Tb) = T2 := ⟨_, rfl⟩
    rw [show putL [] (r : Int) u = [((r : Int), u)] from rfl, hT2] at c2
    have HX2 : Hid (T2.syms[X]? = some ⟨nx, v, true, [((r : Int), u)]⟩) := by rw [← hT2]; exact set_me HX1.out
    have HY2 : Hid (T2.syms[Y]? = some (newSy ny)) := by rw [← hT2]; exact set_at HY1.out hxy
    have hl2 : T2.syms.length = 62 := by rw [← hT2, List.length_set, hl1]
    have HC4 := Lib.hid hC4
    have C2 := Lib.hid c2
    clear c2 hC4 hI4 hA4 C1 e1 e2 hT2
    go_wp2_with fail
    refine C2.out.mono ?_
    rintro e w5 ⟨rfl, lab5, P5, hI5, hA5⟩
    have hC5 := HC4.out.after hI5 hA5
    have e3 := (HU.out.below hC5.below).cell 0 _ rfl
    have e4 := (HU.out.below hC5.below).cell 1 _ rfl
    have c3 := setFunc_any hC5.tab (Y : Int) u
    rw [define_at HY2.out hY2] at c3
    obtain ⟨T3, hT3⟩ : ∃ T3 : Tb, (⟨T2.syms.set Y ⟨ny, u, true, []⟩, T2.find⟩ : Tb) = T3 := ⟨_, rfl⟩
    have c3 : Calls Tryd.prog 51 #[tptr tp, .int .i64 (Y : Int), wdv u] w5 fun e w' => e = .returned (.int .i64 0) ∧ TabOk w5 w' w1.heap.size tp T3 lab5 := by rw [← hT3]; exact c3
    have HX3 : Hid (T3.syms[X]? = some ⟨nx, v, true, [((r : Int), u)]⟩) := by rw [← hT3]; exact set_at HX2.out hyx
    have HY3 : Hid (T3.syms[Y]? = some ⟨ny, u, true, []⟩) := by rw [← hT3]; exact set_me HY2.out
    have hl3 : T3.syms.length = 62 := by rw [← hT3, List.length_set, hl2]
    have HC5 := Lib.hid hC5
    have C3 := Lib.hid c3
    clear c3 hC5 hI5 hA5 C2 HC4 hT3
    go_wp2_with fail
    refine C3.out.mono ?_
    rintro e w6 ⟨rfl, lab6, P6, hI6, hA6⟩
    have hC6 := HC5.out.after hI6 hA6
    have e1 := (HV.out.below hC6.below).cell 0 _ rfl
    have e2 := (HV.out.below hC6.below).cell 1 _ rfl
    have c4 := setProp_any hC6.tab hC6.below.size (Y : Int) (r : Int) v (fun s hs => by rw [symO_nat, HY3.out] at hs; cases hs; exact atEnd_nil _)
    rw [setProp_at HY3.out (by rw [hl3]; exact hr)] at c4
    obtain ⟨T4, hT4⟩ : ∃ T4 : Tb, (⟨T3.syms.set Y ⟨ny, u, true, [((r : Int), v)]⟩, T3.find⟩ : Tb) = T4 := ⟨_, rfl⟩
    rw [show putL [] (r : Int) v = [((r : Int), v)] from rfl, hT4] at c4
    have HX4 : Hid (T4.syms[X]? = some ⟨nx, v, true, [((r : Int), u)]⟩) := by rw [← hT4]; exact set_at HX3.out hyx
    have HY4 : Hid (T4.syms[Y]? = some ⟨ny, u, true, [((r : Int), v)]⟩) := by rw [← hT4]; exact set_me HY3.out
    have HC6 := Lib.hid hC6
    have C4 := Lib.hid c4
    clear c4 hC6 hI6 hA6 C3 HC5 hT4 e3 e4
    go_wp2_with fail
    refine C4.out.mono ?_
    rintro e w7 ⟨rfl, lab7, P7, hI7, hA7⟩
    have hC7 := HC6.out.after hI7 hA7
    have c5 := func_any hC7.tab (X : Int)
    rw [func_at HX4.out] at c5
    have HC7 := Lib.hid hC7
    have C5 := Lib.hid c5
    clear c5 hC7 hI7 hA7 C4 HC6 e1 e2
    go_wp2_with fail
    refine C5.out.mono ?_
    rintro e w8 ⟨rfl, hb8⟩
    have hC8 := (HC7.out.later hb8).later (boxN_below w8 v)
    have hB8 := Bx.new (HC7.out.later hb8) v
    obtain ⟨b15, hb15⟩ : ∃ b15, w8.heap.size = b15 := ⟨_, rfl⟩
    obtain ⟨W8, hW8⟩ : ∃ W8, w8.alloc (.cells #[.int .i64 v.1, .int .i64 v.2] 28) = W8 := ⟨_, rfl⟩
    rw [hW8] at hC8 hB8
    rw [hb15] at hB8
    have c6 := prop_any hC8.tab (X : Int) (r : Int)
    rw [prop_one HX4.out rfl] at c6
    have HC8 := Lib.hid hC8
    have HB8 := Lib.hid hB8
    have HW8 := Lib.hid hW8
    have C6 := Lib.hid c6
    clear c6 hC8 hB8 hb8 hW8 C5 HC7
    go_wp2_with fail
    rw [HW8.out]
    refine C6.out.mono ?_
    rintro e w9 ⟨rfl, hb9⟩
    have hC9 := (HC8.out.later hb9).later (boxN_below w9 u)
    have hB9 := Bx.new (HC8.out.later hb9) u
    have hB9' := (HB8.out.later hb9).later (boxN_below w9 u)
    obtain ⟨b17, hb17⟩ : ∃ b17, w9.heap.size = b17 := ⟨_, rfl⟩
    obtain ⟨W9, hW9⟩ : ∃ W9, w9.alloc (.cells #[.int .i64 u.1, .int .i64 u.2] 28) = W9 := ⟨_, rfl⟩
    rw [hW9] at hC9 hB9 hB9'
    rw [hb17] at hB9
    have hpz := pick_next r hr
    have hPj := fun w => pick_any ((r : Int) + 1) 62 w (by omega) (by omega)
    simp only [hpz] at hPj
    have hjr : (if r = 61 then 0 else r + 1 : Nat) ≠ r := by split <;> omega
    obtain ⟨j, hj⟩ : ∃ j, (if r = 61 then 0 else r + 1 : Nat) = j := ⟨_, rfl⟩
    rw [hj] at hjr
    simp only [hj] at hPj
    clear hpz hj
    have c7 := prop_any hC9.tab (X : Int) (j : Int)
    rw [prop_other HX4.out rfl (by omega)] at c7
    have HPj := Lib.hid hPj
    have HC9 := Lib.hid hC9
    have HB9 := Lib.hid (And.intro hB9 hB9')
    have HW9 := Lib.hid hW9
    have C7 := Lib.hid c7
    clear c7 hC9 hB9 hB9' hb9 hW9 C6 HC8 HB8 hPj
    go_wp2_with fail
    rw [HW9.out]
    refine (HPj.out _).mono ?_
    rintro e w10 ⟨rfl, rfl⟩
    go_wp2_with fail
    refine C7.out.mono ?_
    rintro e w11 ⟨rfl, hb11⟩
    have hC11 := (HC9.out.later hb11).later (boxN_below w11 (0, 0))
    have hB11 := (HB9.out.1.later hb11).later (boxN_below w11 (0, 0))
    have hB11' := (HB9.out.2.later hb11).later (boxN_below w11 (0, 0))
    obtain ⟨b19, hb19⟩ : ∃ b19, w11.heap.size = b19 := ⟨_, rfl⟩
    obtain ⟨W11, hW11⟩ : ∃ W11, w11.alloc (.cells #[.int .i64 0, .int .i64 0] 28) = W11 := ⟨_, rfl⟩
    have hC11 : Cs w1 W11 tp T4 lab7 P7 := by rw [← hW11]; exact hC11
    have hB11 : Bx W11 lab7 b17 u := by rw [← hW11]; exact hB11
    have hB11' : Bx W11 lab7 b15 v := by rw [← hW11]; exact hB11'
    have c8 := clearFunc_any hC11.tab (Y : Int)
    rw [define_at HY4.out hY2] at c8
    obtain ⟨T5, hT5⟩ : ∃ T5 : Tb, (⟨T4.syms.set Y ⟨ny, (0, 0), false, [((r : Int), v)]⟩, T4.find⟩ : Tb) = T5 := ⟨_, rfl⟩
    rw [hT5] at c8
    have HX5 : Hid (T5.syms[X]? = some ⟨nx, v, true, [((r : Int), u)]⟩) := by rw [← hT5]; exact set_at HX4.out hyx
    have HY5 : Hid (T5.syms[Y]? = some ⟨ny, (0, 0), false, [((r : Int), v)]⟩) := by rw [← hT5]; exact set_me HY4.out
    have HC11 := Lib.hid hC11
    have HB11 := Lib.hid (And.intro hB11 hB11')
    have HW11 := Lib.hid hW11
    have C8 := Lib.hid c8
    clear c8 hC11 hB11 hB11' hb11 hW11 C7 HC9 HB9 hT5 hb19
    go_wp2_with fail
    rw [HW11.out]
    refine C8.out.mono ?_
    rintro e w12 ⟨rfl, lab12, P12, hI12, hA12⟩
    have hC12 := HC11.out.after hI12 hA12
    have hB12 := HB11.out.1.after hA12
    have hB12' := HB11.out.2.after hA12
    have c9 := func_any hC12.tab (Y : Int)
    rw [func_at HY5.out] at c9
    have HC12 := Lib.hid hC12
    have HB12 := Lib.hid (And.intro hB12 hB12')
    have C9 := Lib.hid c9
    clear c9 hC12 hB12 hB12' hI12 hA12 C8 HC11 HB11
    go_wp2_with fail
    refine C9.out.mono ?_
    rintro e w13 ⟨rfl, hb13⟩
    have hC13 := (HC12.out.later hb13).later (boxN_below w13 (0, 0))
    have hB13 := (HB12.out.1.later hb13).later (boxN_below w13 (0, 0))
    have hB13' := (HB12.out.2.later hb13).later (boxN_below w13 (0, 0))
    obtain ⟨W13, hW13⟩ : ∃ W13, w13.alloc (.cells #[.int .i64 0, .int .i64 0] 28) = W13 := ⟨_, rfl⟩
    have hC13 : Cs w1 W13 tp T5 lab12 P12 := by rw [← hW13]; exact hC13
    have hB13 : Bx W13 lab12 b17 u := by rw [← hW13]; exact hB13
    have hB13' : Bx W13 lab12 b15 v := by rw [← hW13]; exact hB13'
    have c10 := prop_any hC13.tab (Y : Int) (r : Int)
    rw [prop_one HY5.out rfl] at c10
    have HC13 := Lib.hid hC13
    have HB13 := Lib.hid (And.intro hB13 hB13')
    have HW13 := Lib.hid hW13
    have C10 := Lib.hid c10
    clear c10 hC13 hB13 hB13' hb13 hW13 C9 HC12 HB12
    go_wp2_with fail
    rw [HW13.out]
    refine C10.out.mono ?_
    rintro e w14 ⟨rfl, hb14⟩
    have hC14 := (HC13.out.later hb14).later (boxN_below w14 v)
    have hB14 := (HB13.out.1.later hb14).later (boxN_below w14 v)
    have hB14' := (HB13.out.2.later hb14).later (boxN_below w14 v)
    have hD14 := Bx.new (HC13.out.later hb14) v
    obtain ⟨b24, hb24⟩ : ∃ b24, w14.heap.size = b24 := ⟨_, rfl⟩
    obtain ⟨W14, hW14⟩ : ∃ W14, w14.alloc (.cells #[.int .i64 v.1, .int .i64 v.2] 28) = W14 := ⟨_, rfl⟩
    rw [hW14] at hC14 hB14 hB14' hD14
    rw [hb24] at hD14
    have c11 := func_any hC14.tab (X : Int)
    rw [func_at HX5.out] at c11
    have HC14 := Lib.hid hC14
    have HB14 := Lib.hid (And.intro hB14 (And.intro hB14' hD14))
    have HW14 := Lib.hid hW14
    have C11 := Lib.hid c11
    clear c11 hC14 hB14 hB14' hD14 hb14 hW14 C10 HC13 HB13
    go_wp2_with fail
    rw [HW14.out]
    refine C11.out.mono ?_
    rintro e w15 ⟨rfl, hb15'⟩
    have hC15 := (HC14.out.later hb15').later (boxN_below w15 v)
    have hB15 := (HB14.out.1.later hb15').later (boxN_below w15 v)
    have hB15' := (HB14.out.2.1.later hb15').later (boxN_below w15 v)
    have hD15 := (HB14.out.2.2.later hb15').later (boxN_below w15 v)
    have hE15 := Bx.new (HC14.out.later hb15') v
    obtain ⟨b26, hb26⟩ : ∃ b26, w15.heap.size = b26 := ⟨_, rfl⟩
    obtain ⟨W15, hW15⟩ : ∃ W15, w15.alloc (.cells #[.int .i64 v.1, .int .i64 v.2] 28) = W15 := ⟨_, rfl⟩
    rw [hW15] at hC15 hB15 hB15' hD15 hE15
    rw [hb26] at hE15
    have HC15 := Lib.hid hC15
    have HB15 := Lib.hid (And.intro hB15 (And.intro hB15' (And.intro hD15 hE15)))
    have HW15 := Lib.hid hW15
    clear hC15 hB15 hB15' hD15 hE15 hb15' hW15 C11 HC14 HB14
    go_wp2_with fail
    rw [HW15.out]
    have HS := Lib.hid (show ∀ W, Below W15.heap.size W15 W → W.cell? ⟨w.heap.size, 0, none⟩ = some (.int .i64 v.1) ∧ W.cell? ⟨w.heap.size, 1, none⟩ = some (.int .i64 v.2) ∧ W.cell? ⟨w.heap.size + 1, 0, none⟩ = some (.int .i64 u.1) ∧ W.cell? ⟨w.heap.size + 1, 1, none⟩ = some (.int .i64 u.2) ∧ W.cell? ⟨b15, 0, none⟩ = some (.int .i64 v.1) ∧ W.cell? ⟨b15, 1, none⟩ = some (.int .i64 v.2) ∧ W.cell? ⟨b17, 0, none⟩ = some (.int .i64 u.1) ∧ W.cell? ⟨b17, 1, none⟩ = some (.int .i64 u.2) ∧ W.cell? ⟨b24, 0, none⟩ = some (.int .i64 v.1) ∧ W.cell? ⟨b24, 1, none⟩ = some (.int .i64 v.2) ∧ W.cell? ⟨b26, 0, none⟩ = some (.int .i64 v.1) ∧ W.cell? ⟨b26, 1, none⟩ = some (.int .i64 v.2) from fun W hW =>
      have h1 := HC15.out.below.trans (hW.mono HC15.out.below.size)
      ⟨(HV.out.below h1).cell 0 _ rfl, (HV.out.below h1).cell 1 _ rfl, (HU.out.below h1).cell 0 _ rfl, (HU.out.below h1).cell 1 _ rfl, (HB15.out.2.1.blk.below hW).cell 0 _ rfl, (HB15.out.2.1.blk.below hW).cell 1 _ rfl, (HB15.out.1.blk.below hW).cell 0 _ rfl, (HB15.out.1.blk.below hW).cell 1 _ rfl, (HB15.out.2.2.1.blk.below hW).cell 0 _ rfl, (HB15.out.2.2.1.blk.below hW).cell 1 _ rfl, (HB15.out.2.2.2.blk.below hW).cell 0 _ rfl, (HB15.out.2.2.2.blk.below hW).cell 1 _ rfl⟩)
    have HPs := Lib.hid (show ∀ W, Below W15.heap.size W15 W → Calls Tryd.prog 65 #[tptr tp, .int .i64 (X : Int)] W (fun e w' => (∃ A c, e = .returned (.slice A 1 c) ∧ SlR w' (.slice A 1 c) 1 (pcells [((r : Int), u)])) ∧ Below W.heap.size W w') from fun W hW => by
      have h1 := props_any (HC15.out.tab.below hW) (X : Int)
      rw [props_at HX5.out] at h1
      refine h1.mono ?_
      rintro e w' ⟨⟨vp, he, ho⟩, hb⟩
      obtain ⟨A, c, rfl⟩ := slice_of' ho
      exact ⟨⟨A, c, he, slr_props ho⟩, hb⟩)
    have HBx : Hid (Below W15.heap.size W15 W15.drew) := (Below.refl W15.heap.size W15).drew
    have HF := Lib.hid (show ∀ W, Below W15.heap.size W15 W → Below w.heap.size w W from fun W hW => HB1.out.trans ((HC15.out.below.trans (hW.mono HC15.out.below.size)).mono HB1.out.size))
    have HSm := Lib.hid (show ∀ (w17 : World) (A : Option Addr) (c : Nat), SlR w17 (.slice A 1 c) 1 (pcells [((r : Int), u)]) → Calls Tryd.prog 64 #[.slice A 1 c, .slice (some ⟨w17.heap.size, 0, none⟩) 1 1] (w17.alloc (.cells #[.int .i64 (r : Int), .int .i64 u.1, .int .i64 u.2] 98)) (fun e w' => e = .returned (.bool true) ∧ Below (w17.alloc (.cells #[.int .i64 (r : Int), .int .i64 u.1, .int .i64 u.2] 98)).heap.size (w17.alloc (.cells #[.int .i64 (r : Int), .int .i64 u.1, .int .i64 u.2] 98)) w') from fun w17 A c hs => by
      refine sameP_eq _ _ [((r : Int), u)] _ (hs.below ((Below.refl _ _).alloc (Nat.le_refl _) _)) ⟨_, _, rfl, Nat.le_refl _, fun _ => ⟨w17.heap.size, 0, rfl, fun j x hx => ?_⟩⟩ (by simp)
      have h1 := three_new w17 (.int .i64 (r : Int)) (.int .i64 u.1) (.int .i64 u.2) 98 j x hx
      rwa [show ((⟨w17.heap.size, 0, none⟩ : Addr).add j) = ⟨w17.heap.size, 0 + j, none⟩ by unfold Addr.add; split <;> simp_all] at h1)
    have HBa : Hid (Below W15.heap.size W15 (W15.alloc (.cells #[.int .i64 (r : Int), .int .i64 u.1, .int .i64 u.2] 98)).drew) := ((Below.refl W15.heap.size W15).alloc (Nat.le_refl _) _).drew
    have HSm2 := Lib.hid (show ∀ (w17 : World) (A : Option Addr) (c : Nat), SlR w17 (.slice A 1 c) 1 (pcells [((r : Int), u)]) → Below (W15.alloc (.cells #[.int .i64 (r : Int), .int .i64 u.1, .int .i64 u.2] 98)).drew.heap.size (W15.alloc (.cells #[.int .i64 (r : Int), .int .i64 u.1, .int .i64 u.2] 98)).drew w17 → Calls Tryd.prog 64 #[.slice A 1 c, .slice (some ⟨W15.heap.size, 0, none⟩) 1 1] w17 (fun e w' => e = .returned (.bool true) ∧ Below w17.heap.size w17 w') from fun w17 A c hs hb => by
      refine sameP_eq _ _ [((r : Int), u)] _ hs ⟨_, _, rfl, Nat.le_refl _, fun _ => ⟨W15.heap.size, 0, rfl, fun j x hx => ?_⟩⟩ (by simp)
      have h1 := three_new W15 (.int .i64 (r : Int)) (.int .i64 u.1) (.int .i64 u.2) 98 j x hx
      rw [show ((⟨W15.heap.size, 0, none⟩ : Addr).add j) = ⟨W15.heap.size, 0 + j, none⟩ by unfold Addr.add; split <;> simp_all] at h1
      exact (hb.cell (World.block_lt_of_cell? _ _ h1)).trans h1)
    clear HC15 HB15 HW15 HX HY HX1 HY1 HX2 HY2 HX3 HY3 HX4 HY4 HX5 HY5 HV HU hl1 hl2 hl3
    go_region_held3 (fun W => W.cell? ⟨w.heap.size, 0, none⟩ = some (.int .i64 v.1) ∧ W.cell? ⟨w.heap.size, 1, none⟩ = some (.int .i64 v.2) ∧ W.cell? ⟨w.heap.size + 1, 0, none⟩ = some (.int .i64 u.1) ∧ W.cell? ⟨w.heap.size + 1, 1, none⟩ = some (.int .i64 u.2) ∧ W.cell? ⟨b15, 0, none⟩ = some (.int .i64 v.1) ∧ W.cell? ⟨b15, 1, none⟩ = some (.int .i64 v.2) ∧ W.cell? ⟨b17, 0, none⟩ = some (.int .i64 u.1) ∧ W.cell? ⟨b17, 1, none⟩ = some (.int .i64 u.2) ∧ W.cell? ⟨b24, 0, none⟩ = some (.int .i64 v.1) ∧ W.cell? ⟨b24, 1, none⟩ = some (.int .i64 v.2) ∧ W.cell? ⟨b26, 0, none⟩ = some (.int .i64 v.1) ∧ W.cell? ⟨b26, 1, none⟩ = some (.int .i64 v.2))
      (first
        | (have s0 := HS.out _ HBx.out; with_reducible exact s0)
        | (have s0 := HS.out _ HBa.out; with_reducible exact s0)
        | (have s0 := HS.out _ (HBx.out.alloc HBx.out.size (.cells #[.int .i64 (r : Int), .int .i64 u.1, .int .i64 u.2] 98)); with_reducible exact s0))
      (first
        | (go_at_call 65; refine (HPs.out _ HBx.out).mono ?_; rintro e w17 ⟨⟨A17, c17, rfl, hs17⟩, hb17⟩; have HBx : Hid (Below W15.heap.size W15 w17) := HBx.out.trans (hb17.mono HBx.out.size); have HS17 := Lib.hid (HSm.out w17 A17 c17 hs17); clear hs17 hb17)
        | (go_at_call 65; refine (HPs.out _ HBa.out).mono ?_; rintro e w17 ⟨⟨A17, c17, rfl, hs17⟩, hb17⟩; have HBx : Hid (Below W15.heap.size W15 w17) := HBa.out.trans (hb17.mono HBa.out.size); have HS17 := Lib.hid (HSm2.out w17 A17 c17 hs17 hb17); clear hs17 hb17)
        | (go_at_call 64; refine HS17.out.mono ?_; rintro e w18 ⟨rfl, hb18⟩; have HBx : Hid (Below W15.heap.size W15 w18) := (by first | exact (HBx.out.alloc HBx.out.size _).trans (hb18.mono (HBx.out.alloc HBx.out.size _).size) | exact HBx.out.trans (hb18.mono HBx.out.size)); clear hb18))
    all_goals (
      go_wp2_with fail
      go_ret
      exact ⟨rfl, HF.out _ HBx.out⟩)
end Go.Proofs.YtcdlfgggmigcnaaDoor.Nt
