/- HeapNames: the walk of the law. -/
import Derived.Test.YtcdlfgggmigcnaaDoorHnMath
namespace Go.Proofs.YtcdlfgggmigcnaaDoor.Stores
set_option maxRecDepth 100000
open Go.RowKit
open Go.Proofs.YtcdlfgggmigcnaaDoor.Own Go.Proofs.YtcdlfgggmigcnaaDoor.Hp Go.Proofs.YtcdlfgggmigcnaaDoor.Rep Go.Proofs.YtcdlfgggmigcnaaDoor.Get Go.Proofs.YtcdlfgggmigcnaaDoor.Quick Go.Proofs.YtcdlfgggmigcnaaDoor.Add Go.Proofs.YtcdlfgggmigcnaaDoor.Make Go.Proofs.YtcdlfgggmigcnaaDoor.Kit Go.Proofs.YtcdlfgggmigcnaaDoor.Strs Go.Proofs.YtcdlfgggmigcnaaDoor.Clone Go.Proofs.YtcdlfgggmigcnaaDoor.Lives Go.Proofs.YtcdlfgggmigcnaaDoor.Car Go.Proofs.YtcdlfgggmigcnaaDoor.Collect

/-- A heap of at most two objects in a world behind w. -/
structure Hm (w wr : World) (ob : Obs) (lab : Nat → Option Lab) (P : Parts) : Prop where
  below : Below w.heap.size w wr
  heap : HeapIs wr w.heap.size w.heap.size 2 ob lab P
theorem Hm.later {w wr W : World} {ob : Obs} {lab : Nat → Option Lab} {P : Parts} (h : Hm w wr ob lab P) (hb : Below wr.heap.size wr W) : Hm w W ob lab P :=
  ⟨h.below.trans (hb.mono h.below.size), h.heap.below hb⟩
theorem Hm.after {w wr W : World} {ob ob' : Obs} {lab lab' : Nat → Option Lab} {P P' : Parts} (h : Hm w wr ob lab P) (hI : HeapIs W w.heap.size w.heap.size 2 ob' lab' P') (hA : After wr W lab lab') : Hm w W ob' lab' P' :=
  ⟨h.below.trans (after_below h.heap h.below.size hA), hI⟩
/-- A word of the law's own. -/
structure Bz (wr : World) (lab : Nat → Option Lab) (b : Nat) (k n : Int) : Prop where
  blk : Blk wr b #[.int .i64 k, .int .i64 n] 28
  lab : lab b = none
theorem Bz.later {wr W : World} {lab : Nat → Option Lab} {b : Nat} {k n : Int} (h : Bz wr lab b k n) (hb : Below wr.heap.size wr W) : Bz W lab b k n := ⟨h.blk.below hb, h.lab⟩
theorem Bz.after {w wr W : World} {b : Nat} {k n : Int} {ob : Obs} {lab lab' : Nat → Option Lab} {P : Parts} (h : Bz wr lab b k n) (h0 : Hm w wr ob lab P) (hA : After wr W lab lab') : Bz W lab' b k n :=
  ⟨after_blk h0.heap hA h.blk h.lab, after_lab hA h.blk.lt h.lab⟩

set_option maxHeartbeats 8000000 in
theorem names_walk (w : World) (hT : Tabs w) : Calls Tryd.prog 3 #[] w fun e w' => e = .returned (.bool true) ∧ Below w.heap.size w w' := by
  have HL := Lib.hid (lives_any w hT)
  have HT := Lib.hid hT
  clear hT
  go_enter Tryd.func3, Tryd.ntmps3
  go_wp2_with fail
  refine HL.out.mono ?_
  rintro e w1 ⟨rfl, hb1⟩
  have HS := Lib.hid (stores_any w1 (HT.out.below hb1))
  have HB1 := Lib.hid hb1
  clear hb1 HL
  go_wp2_with fail
  refine HS.out.mono ?_
  rintro e w2 ⟨rfl, hb2⟩
  have HB2 := Lib.hid (HB1.out.trans (hb2.mono HB1.out.size))
  have HN := Lib.hid (new_any 2 (by omega) (by omega) w2)
  clear hb2 HS HB1
  go_wp2_with fail
  refine HN.out.mono ?_
  rintro e w3 ⟨rfl, hb3, hI3⟩
  have HQ := Lib.hid (show ∀ W, Below w2.heap.size w2 W → Tabs W from fun W hW => HT.out.below (HB2.out.trans (hW.mono HB2.out.size)))
  have HH3 := Lib.hid (show ∃ lab P, Hm w2 w3 noObs lab P from ⟨_, _, hb3, hI3⟩)
  obtain ⟨lab3, P3, hh3⟩ := HH3.out
  have HH3 := Lib.hid hh3
  clear hb3 hI3 hh3 HN
  go_wp2_with fail
  refine (int_any 1 _).mono ?_
  rintro e w4 ⟨rfl, hb4⟩
  have HH4 := Lib.hid (HH3.out.later hb4)
  clear hb4 HH3
  go_wp2_with fail
  refine (nil_any _).mono ?_
  rintro e w5 ⟨rfl, hb5⟩
  have hh5 := HH4.out.later hb5
  have hc := cons_any hh5.heap hh5.below.size (0, 1) (1, 0)
  rw [add1] at hc
  have HC := Lib.hid hc
  have HH5 := Lib.hid hh5
  clear hb5 HH4 hc hh5
  go_wp2_with fail
  refine HC.out.mono ?_
  rintro e w6 ⟨rfl, lab6, P6, hI6, hA6⟩
  have hh6 := HH5.out.after hI6 hA6
  have ht := text_any hh6.heap hh6.below.size ⟨#[97]⟩ (by decide) (HQ.out _ hh6.below)
  rw [add2] at ht
  have HTx := Lib.hid ht
  have HH6 := Lib.hid hh6
  clear hI6 hA6 hh6 ht HC HH5
  go_wp2_with fail
  refine HTx.out.mono ?_
  rintro e w7 ⟨rfl, lab7, P7, hI7, hA7⟩
  have HH7 := Lib.hid (HH6.out.after hI7 hA7)
  clear hI7 hA7 HTx HH6
  go_wp2_with fail
  refine (word_any 3 1 _).mono ?_
  rintro e w8 ⟨rfl, hb8⟩
  have hal := wbx_below w8 3 1
  have hh8 := (HH7.out.later hb8).later hal
  have hsl : SlR (w8.alloc (wbx 3 1)) (.slice (some ⟨w8.heap.size, 0, none⟩) 1 1) [((3, 1) : Wd)].length (wcells [(3, 1)]) := by
    have hbk := Blk.new w8 #[.int .i64 3, .int .i64 1] 28
    refine ⟨_, _, rfl, Nat.le_refl _, fun _ => ⟨w8.heap.size, 0, rfl, fun j x hx => ?_⟩⟩
    rcases j with _ | _ | j
    · simp [wcells] at hx; subst hx; exact hbk.cell 0 _ rfl
    · simp [wcells] at hx; subst hx; exact hbk.cell 1 _ rfl
    · simp [wcells] at hx
  have hc := collect_any hh8.heap hh8.below.size _ [(3, 1)] hsl (by simp)
  rw [ob2_collected, ob2_many, obQ_many] at hc
  have HCo := Lib.hid hc
  have HH8 := Lib.hid hh8
  clear hal hh8 hsl hc hb8 HH7
  go_wp2_with fail
  refine HCo.out.mono ?_
  rintro e w9 ⟨rfl, lab9, P9, hI9, hA9⟩
  have hh9 := HH8.out.after hI9 hA9
  have hv := vec_any hh9.heap hh9.below.size (.slice none 0 0) [] (nil_reads _ _ _) (by simp)
  rw [obQ_vec] at hv
  have HV := Lib.hid hv
  have HH9 := Lib.hid hh9
  clear hI9 hA9 hh9 hv HCo HH8
  go_wp2_with fail
  refine HV.out.mono ?_
  rintro e w10 ⟨rfl, lab10, P10, hI10, hA10⟩
  have hh10 := (HH9.out.after hI10 hA10).later (wbx_below w10 4 0)
  have hz10 : Bz (w10.alloc (wbx 4 0)) lab10 w10.heap.size 4 0 := ⟨Blk.new _ _ _, lab_none hI10 (Nat.le_refl _)⟩
  obtain ⟨bv, hbv⟩ : ∃ bv, w10.heap.size = bv := ⟨_, rfl⟩
  obtain ⟨W10, hW10⟩ : ∃ W10, w10.alloc (.cells #[.int .i64 4, .int .i64 0] 28) = W10 := ⟨_, rfl⟩
  rw [hW10] at hh10 hz10
  rw [hbv] at hz10
  have HH10 := Lib.hid hh10
  have HZ10 := Lib.hid hz10
  have HW10 := Lib.hid hW10
  clear hI10 hA10 hh10 hz10 hW10 HV HH9
  go_wp2_with fail
  rw [HW10.out]
  refine (nil_any _).mono ?_
  rintro e w11 ⟨rfl, hb11⟩
  have hh11 := HH10.out.later hb11
  have hca := (car_any hh11.heap (1, 0)).at
  rw [obR_car1] at hca
  have HCa := Lib.hid hca
  have HH11 := Lib.hid hh11
  have HZ11 := Lib.hid (HZ10.out.later hb11)
  clear hb11 hh11 hca HH10 HZ10 HW10
  go_wp2_with fail
  refine HCa.out.mono ?_
  rintro e w12 ⟨rfl, hb12⟩
  have hh12 := (HH11.out.later hb12).later (wbx_below w12 1 0)
  have hz12 := (HZ11.out.later hb12).later (wbx_below w12 1 0)
  have hy12 : Bz (w12.alloc (wbx 1 0)) lab10 w12.heap.size 1 0 := ⟨Blk.new _ _ _, lab_none (HH11.out.later hb12).heap (Nat.le_refl _)⟩
  obtain ⟨bn, hbn⟩ : ∃ bn, w12.heap.size = bn := ⟨_, rfl⟩
  obtain ⟨W12, hW12⟩ : ∃ W12, w12.alloc (.cells #[.int .i64 1, .int .i64 0] 28) = W12 := ⟨_, rfl⟩
  rw [hW12] at hh12 hz12 hy12
  rw [hbn] at hy12
  have HH12 := Lib.hid hh12
  have HZ12 := Lib.hid hz12
  have HY12 := Lib.hid hy12
  have HW12 := Lib.hid hW12
  clear hb12 hh12 hz12 hy12 hW12 HCa HH11 HZ11
  go_wp2_with fail
  rw [HW12.out]
  refine (int_any 5 _).mono ?_
  rintro e w13 ⟨rfl, hb13⟩
  have hh13 := HH12.out.later hb13
  have hca := (car_any hh13.heap (0, 5)).at
  rw [obR_car5] at hca
  have HCa := Lib.hid hca
  have HH13 := Lib.hid hh13
  have HZ13 := Lib.hid (HZ12.out.later hb13)
  have HY13 := Lib.hid (HY12.out.later hb13)
  clear hb13 hh13 hca HH12 HZ12 HY12 HW12
  go_wp2_with fail
  refine HCa.out.mono ?_
  rintro e w14 ⟨rfl, hb14⟩
  have HH14 := Lib.hid ((HH13.out.later hb14).later (wbx_below w14 0 0))
  have HZ14 := Lib.hid ((HZ13.out.later hb14).later (wbx_below w14 0 0))
  have HY14 := Lib.hid ((HY13.out.later hb14).later (wbx_below w14 0 0))
  obtain ⟨W14, hW14⟩ : ∃ W14, w14.alloc (.cells #[.int .i64 0, .int .i64 0] 28) = W14 := ⟨_, rfl⟩
  have HH14 : Hid (Hm w2 W14 obR lab10 P10) := by rw [← hW14]; exact HH14
  have HZ14 : Hid (Bz W14 lab10 bv 4 0) := by rw [← hW14]; exact HZ14
  have HY14 : Hid (Bz W14 lab10 bn 1 0) := by rw [← hW14]; exact HY14
  have ht := text_any HH14.out.heap HH14.out.below.size ⟨#[255]⟩ (by decide) (HQ.out _ HH14.out.below)
  rw [obR_text] at ht
  have HTx := Lib.hid ht
  have HW14 := Lib.hid hW14
  clear hb14 hW14 ht HCa HH13 HZ13 HY13
  go_wp2_with fail
  rw [HW14.out]
  refine (new_zero _).mono ?_
  rintro e w15 ⟨rfl, rfl⟩
  go_wp2_with fail
  refine HTx.out.mono ?_
  rintro e w16 ⟨rfl, lab16, P16, hI16, hA16⟩
  have HH16 := Lib.hid ((HH14.out.after hI16 hA16).later (wbx_below w16 0 0))
  have HZ16 := Lib.hid ((HZ14.out.after HH14.out hA16).later (wbx_below w16 0 0))
  have HY16 := Lib.hid ((HY14.out.after HH14.out hA16).later (wbx_below w16 0 0))
  obtain ⟨W16, hW16⟩ : ∃ W16, w16.alloc (.cells #[.int .i64 0, .int .i64 0] 28) = W16 := ⟨_, rfl⟩
  have HH16 : Hid (Hm w2 W16 obR lab16 P16) := by rw [← hW16]; exact HH16
  have HZ16 : Hid (Bz W16 lab16 bv 4 0) := by rw [← hW16]; exact HZ16
  have HY16 : Hid (Bz W16 lab16 bn 1 0) := by rw [← hW16]; exact HY16
  have HW16 := Lib.hid hW16
  clear hI16 hA16 hW16 HTx HH14 HZ14 HY14 HW14
  go_wp2_with fail
  rw [HW16.out]
  refine (nil_any _).mono ?_
  rintro e w17 ⟨rfl, hb17⟩
  have HB17 := Lib.hid hb17
  clear hb17 HW16
  go_wp2_with fail
  refine (nil_any _).mono ?_
  rintro e w18 ⟨rfl, hb18⟩
  have HB18 := Lib.hid (HB17.out.trans (hb18.mono HB17.out.size))
  clear hb18 HB17
  go_wp2_with fail
  refine (cons_nil (1, 0) (1, 0) _).mono ?_
  rintro e w19 ⟨rfl, hb19⟩
  have hb20 := (HB18.out.trans (hb19.mono HB18.out.size)).trans ((wbx_below w19 0 0).mono (HB18.out.trans (hb19.mono HB18.out.size)).size)
  have hh20 := HH16.out.later hb20
  have hz20 := (HZ16.out.later hb20).blk
  have hy20 := (HY16.out.later hb20).blk
  have q1 := fun x : Grown (w19.alloc (wbx 0 0)) => (hz20.below x.below).cell 0 _ rfl
  have q2 := fun x : Grown (w19.alloc (wbx 0 0)) => (hz20.below x.below).cell 1 _ rfl
  have q3 := fun x : Grown (w19.alloc (wbx 0 0)) => (hy20.below x.below).cell 0 _ rfl
  have q4 := fun x : Grown (w19.alloc (wbx 0 0)) => (hy20.below x.below).cell 1 _ rfl
  have HH20 := Lib.hid hh20
  have HF := Lib.hid (HB2.out.trans (hh20.below.mono HB2.out.size))
  clear hb19 hb20 hh20 hz20 hy20 HH16 HZ16 HY16 HB18
  go_wp2_with fail
  refine wp_region_grown (w19.alloc (.cells #[.int .i64 0, .int .i64 0] 28)) (Below.refl _ _) (by kernel_rfl) (by kernel_rfl) ?_
  repeat (go_big_quiet_step (first
    | (go_at_call 22; exact grown_call (fun w _ => word_any _ _ w))
    | (go_at_call 19; exact grown_call (fun w _ => nil_any w))
    | (go_at_call 25; exact grown_call (fun w _ => (many_null w).mono fun _ _ h => ⟨h.1, h.2 ▸ Below.refl _ _⟩))
    | (go_at_call 26; exact grown_call (fun w _ => (room_null w).mono fun _ _ h => ⟨h.1, h.2 ▸ Below.refl _ _⟩))
    | (go_at_call 27; exact grown_call (fun w _ => (copy_nil w).mono fun _ _ h => ⟨h.1, h.2 ▸ Below.refl _ _⟩))
    | (go_at_call 28; exact grown_call (fun w hb => (limit_any (HH20.out.later hb).heap).mono fun _ _ h => ⟨h.1, h.2 ▸ Below.refl _ _⟩))
    | (go_at_call 29; exact grown_call (fun w hb => setCar_none (HH20.out.later hb).heap (1, 0) (4, 0) obR_find1))))
  refine wpQuiet_nil ?_
  rintro _ ⟨x, rfl⟩
  have HX := Lib.hid (HF.out.trans (x.below.mono HF.out.size))
  go_wp2_with fail
  go_ret
  exact ⟨rfl, HX.out⟩
end Go.Proofs.YtcdlfgggmigcnaaDoor.Stores
