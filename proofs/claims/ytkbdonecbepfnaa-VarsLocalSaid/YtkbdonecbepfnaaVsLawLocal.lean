/- The walk of VarsLocal. -/
import Derived.Test.YtkbdonecbepfnaaVsCur
import Derived.Test.YtkbdonecbepfnaaVsLocMath
import Derived.Test.YtkbdonecbepfnaaVsLocals
import Derived.Test.YtkbdonecbepfnaaVsArgs
namespace Go.Proofs.Ytkbdonecbepfnaa.Vs
set_option maxRecDepth 100000
open Go.RowKit
open Go.Proofs.Ytkbdonecbepfnaa.Own

set_option maxHeartbeats 16000000 in
theorem local_walk (x0 x1 x2 : Int) (x y z : Wd) (w : World) (_ : Wf x0) (_ : Wf x1) (_ : Wf x2) (_ : Fits x) (_ : Fits y) (_ : Fits z) : Calls Try.prog 4 #[.int .i64 x0, .int .i64 x1, .int .i64 x2, wdv x, wdv y, wdv z] w fun e w' => e = .returned (.bool true) ∧ Below w.heap.size w w' := by
  obtain ⟨w3, hw3⟩ : ∃ w3, ((w.alloc (wbox x)).alloc (wbox y)).alloc (wbox z) = w3 := ⟨_, rfl⟩
  obtain ⟨bx, by_, bz⟩ := three_boxes w #[.int .i64 x.1, .int .i64 x.2] #[.int .i64 y.1, .int .i64 y.2] #[.int .i64 z.1, .int .i64 z.2] 29 29 29
  have hB := below_three w (wbox x) (wbox y) (wbox z)
  have HL := Lib.hid (fun W => lives_any W)
  obtain ⟨p, hp, hP⟩ := pick_nat x0 16382 (by omega) (by omega)
  obtain ⟨pa, hpa, hPa⟩ := pick_nat x1 65536 (by omega) (by omega)
  obtain ⟨pb, hpb, hPb⟩ := pick_nat x2 65536 (by omega) (by omega)
  have HP := Lib.hid hP
  have HPa := Lib.hid hPa
  have HPb := Lib.hid hPb
  have HB := Lib.hid hB
  have HBx := Lib.hid (⟨bx, by_, bz⟩ : _ ∧ _ ∧ _)
  clear hP hPa hPb hw3 w3 bx by_ bz hB
  go_enter Try.func4, Try.ntmps4
  go_wp2_with fail
  refine (HL.out _).mono ?_
  rintro e w1 ⟨rfl, hb1⟩
  have HB1 := Lib.hid (HB.out.trans (hb1.mono HB.out.size))
  have HBx1 := Lib.hid (⟨HBx.out.1.below hb1, HBx.out.2.1.below hb1, HBx.out.2.2.below hb1⟩ : _ ∧ _ ∧ _)
  clear hb1
  go_wp2_with fail
  refine (HP.out _).mono ?_
  rintro e w1' ⟨rfl, rfl⟩
  go_wp2_with fail
  refine (HPa.out _).mono ?_
  rintro e w1' ⟨rfl, rfl⟩
  go_wp2_with fail
  refine (HPb.out _).mono ?_
  rintro e w1' ⟨rfl, rfl⟩
  go_wp2_with fail
  refine (new_any _).mono ?_
  rintro e w2 ⟨rfl, hb2, hI2⟩
  obtain ⟨n, hn⟩ : ∃ n : Int, 2 + (p : Int) = n := ⟨_, rfl⟩
  obtain ⟨a, ha⟩ : ∃ a : Int, 1 + (pa : Int) = a := ⟨_, rfl⟩
  obtain ⟨b, hb⟩ : ∃ b : Int, 1 + (pb : Int) = b := ⟨_, rfl⟩
  have hn2 : 2 ≤ n ∧ n < 16384 := by omega
  have ha2 : 1 ≤ a ∧ a ≤ 65536 := by omega
  have hb3 : 1 ≤ b ∧ b ≤ 65536 := by omega
  have hC := Cur.start (l := [(w.heap.size, x), (w.heap.size + 1, y), (w.heap.size + 1 + 1, z)]) HB1.out hb2 hI2 (by
    intro q hq
    simp only [List.mem_cons, List.not_mem_nil, or_false] at hq
    rcases hq with rfl | rfl | rfl
    · exact HBx1.out.1
    · exact HBx1.out.2.1
    · exact HBx1.out.2.2)
  obtain ⟨vp, hvp⟩ : ∃ vp, w1.heap.size + 1 + 1 = vp := ⟨_, rfl⟩
  obtain ⟨bs, hbs⟩ : ∃ bs, w1.heap.size = bs := ⟨_, rfl⟩
  rw [hvp, hbs] at hC
  rw [hn, ha, hb, hvp]
  have HC0 := Lib.hid hC
  clear hI2 hb2 hn ha hb hvp hbs hp hpa hpb HP HPa HPb HL HB1 HB HBx HBx1 hC
  have hwn : Wf n := by unfold Wf; omega
  by_cases hab : a = b
  · subst hab
    have hX := HC0.out.below
    have HX := Lib.hid hX
    clear hX
    go_wp2_with fail
    go_ret
    exact ⟨by simp, HX.out⟩
  · have hA : Ab n a b := ⟨hn2, ha2, hb3, hab⟩
    have hz : (a == b) = false := beq_eq_false_iff_ne.2 hab
    obtain ⟨k0, k1⟩ := HC0.out.cell (b := w.heap.size) (x := x) (by simp)
    obtain ⟨k2, k3⟩ := HC0.out.cell (b := w.heap.size + 1) (x := y) (by simp)
    obtain ⟨k4, k5⟩ := HC0.out.cell (b := w.heap.size + 1 + 1) (x := z) (by simp)
    have HS := Lib.hid (HC0.out.lift (fun lab P h hbs => by
      have h9 := setDefault_any h hbs n x hwn
      rw [loc1 hA] at h9
      exact h9))
    go_wp2_with fail
    refine HS.out.mono ?_
    clear HS k0 k1 k2 k3 k4 k5
    rintro e w10 ⟨rfl, hC⟩
    have HC1 := Lib.hid hC
    clear hC
    obtain ⟨k0, k1⟩ := HC1.out.cell (b := w.heap.size) (x := x) (by simp)
    obtain ⟨k2, k3⟩ := HC1.out.cell (b := w.heap.size + 1) (x := y) (by simp)
    obtain ⟨k4, k5⟩ := HC1.out.cell (b := w.heap.size + 1 + 1) (x := z) (by simp)
    have HS := Lib.hid (HC1.out.lift (fun lab P h hbs => by
      have h9 := setLocal_any h hbs n a y hwn
      rw [loc2 hA] at h9
      exact h9))
    go_wp2_with fail
    refine HS.out.mono ?_
    clear HS k0 k1 k2 k3 k4 k5
    rintro e w11 ⟨rfl, hC⟩
    have HC2 := Lib.hid hC
    clear hC
    obtain ⟨k0, k1⟩ := HC2.out.cell (b := w.heap.size) (x := x) (by simp)
    obtain ⟨k2, k3⟩ := HC2.out.cell (b := w.heap.size + 1) (x := y) (by simp)
    obtain ⟨k4, k5⟩ := HC2.out.cell (b := w.heap.size + 1 + 1) (x := z) (by simp)
    have HS := Lib.hid (HC2.out.lift (fun lab P h hbs => by
      have h9 := setScope_any h b
      rw [lS_scope _ _ _ _ _ _ _ b (by omega)] at h9
      exact h9))
    go_wp2_with fail
    refine HS.out.mono ?_
    clear HS k0 k1 k2 k3 k4 k5
    rintro e w12 ⟨rfl, hC⟩
    have HC3 := Lib.hid hC
    clear hC
    obtain ⟨k0, k1⟩ := HC3.out.cell (b := w.heap.size) (x := x) (by simp)
    obtain ⟨k2, k3⟩ := HC3.out.cell (b := w.heap.size + 1) (x := y) (by simp)
    obtain ⟨k4, k5⟩ := HC3.out.cell (b := w.heap.size + 1 + 1) (x := z) (by simp)
    have HS := Lib.hid (HC3.out.quiet (fun lab P h => by
      have h9 := get_any h n hwn
      rw [lS_getb0 hA] at h9
      exact h9))
    go_wp2_with fail
    refine HS.out.mono ?_
    clear HS k0 k1 k2 k3 k4 k5
    rintro e w13 ⟨rfl, hC⟩
    have HC4 := Lib.hid (hC.alloc x)
    clear hC
    obtain ⟨k0, k1⟩ := HC4.out.cell (b := w.heap.size) (x := x) (by simp)
    obtain ⟨k2, k3⟩ := HC4.out.cell (b := w.heap.size + 1) (x := y) (by simp)
    obtain ⟨k4, k5⟩ := HC4.out.cell (b := w.heap.size + 1 + 1) (x := z) (by simp)
    have HS := Lib.hid (HC4.out.lift (fun lab P h hbs => by
      have h9 := makeLocal_any h hbs n hwn
      rw [loc4 hA] at h9
      exact h9))
    go_wp2_with fail
    refine HS.out.mono ?_
    clear HS k0 k1 k2 k3 k4 k5
    rintro e w14 ⟨rfl, hC⟩
    have HC5 := Lib.hid hC
    clear hC
    obtain ⟨k0, k1⟩ := HC5.out.cell (b := w.heap.size) (x := x) (by simp)
    obtain ⟨k2, k3⟩ := HC5.out.cell (b := w.heap.size + 1) (x := y) (by simp)
    obtain ⟨k4, k5⟩ := HC5.out.cell (b := w.heap.size + 1 + 1) (x := z) (by simp)
    have HS := Lib.hid (HC5.out.lift (fun lab P h hbs => by
      have h9 := set_any h hbs n z hwn
      rw [loc5 hA] at h9
      exact h9))
    go_wp2_with fail
    refine HS.out.mono ?_
    clear HS k0 k1 k2 k3 k4 k5
    rintro e w15 ⟨rfl, hC⟩
    have HC6 := Lib.hid hC
    clear hC
    obtain ⟨k0, k1⟩ := HC6.out.cell (b := w.heap.size) (x := x) (by simp)
    obtain ⟨k2, k3⟩ := HC6.out.cell (b := w.heap.size + 1) (x := y) (by simp)
    obtain ⟨k4, k5⟩ := HC6.out.cell (b := w.heap.size + 1 + 1) (x := z) (by simp)
    have HS := Lib.hid (HC6.out.lift (fun lab P h hbs => by
      have h9 := setScope_any h a
      rw [lS_scope _ _ _ _ _ _ _ a (by omega)] at h9
      exact h9))
    go_wp2_with fail
    refine HS.out.mono ?_
    clear HS k0 k1 k2 k3 k4 k5
    rintro e w16 ⟨rfl, hC⟩
    have HC7 := Lib.hid hC
    clear hC
    obtain ⟨k0, k1⟩ := HC7.out.cell (b := w.heap.size) (x := x) (by simp)
    obtain ⟨k2, k3⟩ := HC7.out.cell (b := w.heap.size + 1) (x := y) (by simp)
    obtain ⟨k4, k5⟩ := HC7.out.cell (b := w.heap.size + 1 + 1) (x := z) (by simp)
    have HS := Lib.hid (HC7.out.quiet (fun lab P h => by
      have h9 := get_any h n hwn
      rw [lS_geta hA] at h9
      exact h9))
    go_wp2_with fail
    refine HS.out.mono ?_
    clear HS k0 k1 k2 k3 k4 k5
    rintro e w17 ⟨rfl, hC⟩
    have HC8 := Lib.hid (hC.alloc y)
    clear hC
    obtain ⟨k0, k1⟩ := HC8.out.cell (b := w.heap.size) (x := x) (by simp)
    obtain ⟨k2, k3⟩ := HC8.out.cell (b := w.heap.size + 1) (x := y) (by simp)
    obtain ⟨k4, k5⟩ := HC8.out.cell (b := w.heap.size + 1 + 1) (x := z) (by simp)
    have HS := Lib.hid (HC8.out.lift (fun lab P h hbs => by
      have h9 := setScope_any h 0
      rw [lS_scope _ _ _ _ _ _ _ 0 (by omega)] at h9
      exact h9))
    go_wp2_with fail
    refine HS.out.mono ?_
    clear HS k0 k1 k2 k3 k4 k5
    rintro e w18 ⟨rfl, hC⟩
    have HC9 := Lib.hid hC
    clear hC
    obtain ⟨k0, k1⟩ := HC9.out.cell (b := w.heap.size) (x := x) (by simp)
    obtain ⟨k2, k3⟩ := HC9.out.cell (b := w.heap.size + 1) (x := y) (by simp)
    obtain ⟨k4, k5⟩ := HC9.out.cell (b := w.heap.size + 1 + 1) (x := z) (by simp)
    have HS := Lib.hid (HC9.out.quiet (fun lab P h => by
      have h9 := get_any h n hwn
      rw [lS_get0] at h9
      exact h9))
    go_wp2_with fail
    refine HS.out.mono ?_
    clear HS k0 k1 k2 k3 k4 k5
    rintro e w19 ⟨rfl, hC⟩
    have HC10 := Lib.hid (hC.alloc x)
    clear hC
    obtain ⟨k0, k1⟩ := HC10.out.cell (b := w.heap.size) (x := x) (by simp)
    obtain ⟨k2, k3⟩ := HC10.out.cell (b := w.heap.size + 1) (x := y) (by simp)
    obtain ⟨k4, k5⟩ := HC10.out.cell (b := w.heap.size + 1 + 1) (x := z) (by simp)
    have HS := Lib.hid (HC10.out.quiet (fun lab P h => by
      have h9 := local_any h n b hwn (by unfold Wf; omega)
      rw [loc7 hA] at h9
      exact h9))
    go_wp2_with fail
    refine HS.out.mono ?_
    clear HS k0 k1 k2 k3 k4 k5
    rintro e w20 ⟨rfl, hC⟩
    have HC11 := Lib.hid (hC.alloc z)
    clear hC
    obtain ⟨k0, k1⟩ := HC11.out.cell (b := w.heap.size) (x := x) (by simp)
    obtain ⟨k2, k3⟩ := HC11.out.cell (b := w.heap.size + 1) (x := y) (by simp)
    obtain ⟨k4, k5⟩ := HC11.out.cell (b := w.heap.size + 1 + 1) (x := z) (by simp)
    have HS := Lib.hid (HC11.out.lift (fun lab P h hbs => by
      have h9 := setScope_any h a
      rw [lS_scope _ _ _ _ _ _ _ a (by omega)] at h9
      exact h9))
    go_wp2_with fail
    refine HS.out.mono ?_
    clear HS k0 k1 k2 k3 k4 k5
    rintro e w21 ⟨rfl, hC⟩
    have HC12 := Lib.hid hC
    clear hC
    obtain ⟨k0, k1⟩ := HC12.out.cell (b := w.heap.size) (x := x) (by simp)
    obtain ⟨k2, k3⟩ := HC12.out.cell (b := w.heap.size + 1) (x := y) (by simp)
    obtain ⟨k4, k5⟩ := HC12.out.cell (b := w.heap.size + 1 + 1) (x := z) (by simp)
    have HS := Lib.hid (HC12.out.lift (fun lab P h hbs => by
      have h9 := killLocal_any h n hwn
      rw [loc9 hA] at h9
      exact h9))
    go_wp2_with fail
    refine HS.out.mono ?_
    clear HS k0 k1 k2 k3 k4 k5
    rintro e w22 ⟨rfl, hC⟩
    have HC13 := Lib.hid hC
    clear hC
    obtain ⟨k0, k1⟩ := HC13.out.cell (b := w.heap.size) (x := x) (by simp)
    obtain ⟨k2, k3⟩ := HC13.out.cell (b := w.heap.size + 1) (x := y) (by simp)
    obtain ⟨k4, k5⟩ := HC13.out.cell (b := w.heap.size + 1 + 1) (x := z) (by simp)
    have HS := Lib.hid (HC13.out.quiet (fun lab P h => by
      have h9 := get_any h n hwn
      rw [lS_geta0 hA] at h9
      exact h9))
    go_wp2_with fail
    refine HS.out.mono ?_
    clear HS k0 k1 k2 k3 k4 k5
    rintro e w23 ⟨rfl, hC⟩
    have HC14 := Lib.hid (hC.alloc x)
    clear hC
    obtain ⟨k0, k1⟩ := HC14.out.cell (b := w.heap.size) (x := x) (by simp)
    obtain ⟨k2, k3⟩ := HC14.out.cell (b := w.heap.size + 1) (x := y) (by simp)
    obtain ⟨k4, k5⟩ := HC14.out.cell (b := w.heap.size + 1 + 1) (x := z) (by simp)
    have HS := Lib.hid (HC14.out.lift (fun lab P h hbs => by
      have h9 := setScope_any h b
      rw [lS_scope _ _ _ _ _ _ _ b (by omega)] at h9
      exact h9))
    go_wp2_with fail
    refine HS.out.mono ?_
    clear HS k0 k1 k2 k3 k4 k5
    rintro e w24 ⟨rfl, hC⟩
    have HC15 := Lib.hid hC
    clear hC
    obtain ⟨k0, k1⟩ := HC15.out.cell (b := w.heap.size) (x := x) (by simp)
    obtain ⟨k2, k3⟩ := HC15.out.cell (b := w.heap.size + 1) (x := y) (by simp)
    obtain ⟨k4, k5⟩ := HC15.out.cell (b := w.heap.size + 1 + 1) (x := z) (by simp)
    have HS := Lib.hid (HC15.out.lift (fun lab P h hbs => by
      have h9 := drop_any h b
      rw [loc11 hA] at h9
      exact h9))
    go_wp2_with fail
    refine HS.out.mono ?_
    clear HS k0 k1 k2 k3 k4 k5
    rintro e w25 ⟨rfl, hC⟩
    have HC16 := Lib.hid hC
    clear hC
    obtain ⟨k0, k1⟩ := HC16.out.cell (b := w.heap.size) (x := x) (by simp)
    obtain ⟨k2, k3⟩ := HC16.out.cell (b := w.heap.size + 1) (x := y) (by simp)
    obtain ⟨k4, k5⟩ := HC16.out.cell (b := w.heap.size + 1 + 1) (x := z) (by simp)
    have HS := Lib.hid (HC16.out.quiet (fun lab P h => by
      have h9 := get_any h n hwn
      rw [lS_get0] at h9
      exact h9))
    go_wp2_with fail
    refine HS.out.mono ?_
    clear HS k0 k1 k2 k3 k4 k5
    rintro e w26 ⟨rfl, hC⟩
    have HC17 := Lib.hid (hC.alloc x)
    clear hC
    obtain ⟨k0, k1⟩ := HC17.out.cell (b := w.heap.size) (x := x) (by simp)
    obtain ⟨k2, k3⟩ := HC17.out.cell (b := w.heap.size + 1) (x := y) (by simp)
    obtain ⟨k4, k5⟩ := HC17.out.cell (b := w.heap.size + 1 + 1) (x := z) (by simp)
    clear k0 k1 k2 k3 k4 k5
    obtain ⟨q0, q1⟩ := HC17.out.cell (b := w.heap.size) (x := x) (by simp)
    obtain ⟨q2, q3⟩ := HC17.out.cell (b := w.heap.size + 1) (x := y) (by simp)
    obtain ⟨q4, q5⟩ := HC17.out.cell (b := w.heap.size + 1 + 1) (x := z) (by simp)
    obtain ⟨q6, q7⟩ := HC17.out.cell (b := w13.heap.size) (x := x) (by simp)
    obtain ⟨q8, q9⟩ := HC17.out.cell (b := w17.heap.size) (x := y) (by simp)
    obtain ⟨q10, q11⟩ := HC17.out.cell (b := w19.heap.size) (x := x) (by simp)
    obtain ⟨q12, q13⟩ := HC17.out.cell (b := w20.heap.size) (x := z) (by simp)
    obtain ⟨q14, q15⟩ := HC17.out.cell (b := w23.heap.size) (x := x) (by simp)
    obtain ⟨q16, q17⟩ := HC17.out.cell (b := w26.heap.size) (x := x) (by simp)
    have HE := Lib.hid (HC17.out.is.elim fun lab h1 => h1.elim fun P h2 => isLocal_any h2.1 n b hwn (by unfold Wf; omega))
    have HF := Lib.hid (HC17.out.is.elim fun lab h1 => h1.elim fun P h2 => locals_none h2.1 a ha2 (by simp [lS]; omega))
    have HG := Lib.hid (HC17.out.is.elim fun lab h1 => h1.elim fun P h2 => scope_any h2.1)
    rw [show isLocalB (lS n a b (some (x, true)) none none 0) n b = false by unfold isLocalB; rw [lS_b hA]; simp] at HE
    have HX := Lib.hid HC17.out.below
    go_wp2_with (first
      | (go_at_call 14; refine HG.out.mono ?_; rintro e w' ⟨rfl, rfl⟩)
      | (go_at_call 27; refine HE.out.mono ?_; rintro e w' ⟨rfl, rfl⟩)
      | (go_at_call 28; refine HF.out.mono ?_; rintro e w9 ⟨rfl, hb9⟩))
    go_ret
    exact ⟨rfl, HX.out.trans (hb9.mono HX.out.size)⟩
end Go.Proofs.Ytkbdonecbepfnaa.Vs
