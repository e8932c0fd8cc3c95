/- The walk of VarsConst. -/
import Derived.Test.YtkbdonecbepfnaaVsCur
import Derived.Test.YtkbdonecbepfnaaVsConst
import Derived.Test.YtkbdonecbepfnaaVsLocals
import Derived.Test.YtkbdonecbepfnaaVsArgs
import Derived.Deep.RegionHeld3
import Derived.LoopTactic
namespace Go.Proofs.Ytkbdonecbepfnaa.Vs
set_option maxRecDepth 100000
open Go.RowKit
open Go.Proofs.Ytkbdonecbepfnaa.Own

theorem tens {w : World} {b : Nat} {t : TypeId} (h : Blk w b #[.int .i64 10, .int .i64 10, .int .i64 10, .int .i64 10, .int .i64 10, .int .i64 10] t) (k : Nat) (hk : k < 6) : w.cell? ⟨b, k, none⟩ = some (.int .i64 10) := by
  have : k = 0 ∨ k = 1 ∨ k = 2 ∨ k = 3 ∨ k = 4 ∨ k = 5 := by omega
  rcases this with rfl | rfl | rfl | rfl | rfl | rfl <;> exact h.cell _ _ rfl
set_option maxHeartbeats 16000000 in
theorem const_walk (x0 : Int) (x y : Wd) (x3 : Int) (w : World) (_ : Wf x0) (_ : Fits x) (_ : Fits y) (_ : Wf x3) : Calls Try.prog 5 #[.int .i64 x0, wdv x, wdv y, .int .i64 x3] w fun e w' => e = .returned (.bool true) ∧ Below w.heap.size w w' := by
  obtain ⟨bx, by_⟩ := two_boxes w #[.int .i64 x.1, .int .i64 x.2] #[.int .i64 y.1, .int .i64 y.2] 29 29
  have hB := below_two w (wbox x) (wbox y)
  have HL := Lib.hid (fun W => lives_any W)
  obtain ⟨p, hp, hP⟩ := pick_nat x0 16382 (by omega) (by omega)
  obtain ⟨pk, hpk, hPk⟩ := pick_nat x3 65536 (by omega) (by omega)
  have HP := Lib.hid hP
  have HPk := Lib.hid hPk
  have HB := Lib.hid hB
  have HBx := Lib.hid (⟨bx, by_⟩ : _ ∧ _)
  clear hP hPk bx by_ hB
  go_enter Try.func5, Try.ntmps5
  go_wp2_with fail
  refine (HL.out _).mono ?_
  rintro e w1 ⟨rfl, hb1⟩
  have HB1 := Lib.hid (HB.out.trans (hb1.mono HB.out.size))
  have HBx1 := Lib.hid (⟨HBx.out.1.below hb1, HBx.out.2.below hb1⟩ : _ ∧ _)
  clear hb1
  go_wp2_with fail
  refine (HP.out _).mono ?_
  rintro e w1' ⟨rfl, rfl⟩
  go_wp2_with fail
  refine (HPk.out _).mono ?_
  rintro e w1' ⟨rfl, rfl⟩
  go_wp2_with fail
  refine (new_any _).mono ?_
  rintro e w2 ⟨rfl, hb2, hI2⟩
  obtain ⟨n, hn⟩ : ∃ n : Int, 2 + (p : Int) = n := ⟨_, rfl⟩
  obtain ⟨k, hk⟩ : ∃ k : Int, 1 + (pk : Int) = k := ⟨_, rfl⟩
  have hn2 : 2 ≤ n ∧ n < 16384 := by omega
  have hk2 : 1 ≤ k ∧ k ≤ 65536 := by omega
  have hC := Cur.start (l := [(w.heap.size, x), (w.heap.size + 1, y)]) HB1.out hb2 hI2 (by
    intro q hq
    simp only [List.mem_cons, List.not_mem_nil, or_false] at hq
    rcases hq with rfl | rfl
    · exact HBx1.out.1
    · exact HBx1.out.2)
  obtain ⟨vp, hvp⟩ : ∃ vp, w1.heap.size + 1 + 1 = vp := ⟨_, rfl⟩
  obtain ⟨bs, hbs⟩ : ∃ bs, w1.heap.size = bs := ⟨_, rfl⟩
  rw [hvp, hbs] at hC
  rw [hn, hk, hvp]
  have HC0 := Lib.hid hC
  clear hI2 hb2 hn hk hvp hbs hp hpk HP HPk HL HB1 HB HBx HBx1 hC
  have hwn : Wf n := by unfold Wf; omega
  obtain ⟨k0, k1⟩ := HC0.out.cell (b := w.heap.size) (x := x) (by simp)
  obtain ⟨k2, k3⟩ := HC0.out.cell (b := w.heap.size + 1) (x := y) (by simp)
  have HS := Lib.hid (HC0.out.lift (fun lab P h hbs => by
    have h9 := set_any h hbs n x hwn
    rw [con1 n (x, true) hn2] at h9
    exact h9))
  go_wp2_with fail
  refine HS.out.mono ?_
  clear HS k0 k1 k2 k3
  rintro e w10 ⟨rfl, hC⟩
  have HC1 := Lib.hid hC
  clear hC
  obtain ⟨k0, k1⟩ := HC1.out.cell (b := w.heap.size) (x := x) (by simp)
  obtain ⟨k2, k3⟩ := HC1.out.cell (b := w.heap.size + 1) (x := y) (by simp)
  have HS := Lib.hid (HC1.out.lift (fun lab P h hbs => by
    have h9 := setScope_any h k
    rw [con2 n (x, true) k hk2] at h9
    exact h9))
  go_wp2_with fail
  refine HS.out.mono ?_
  clear HS k0 k1 k2 k3
  rintro e w11 ⟨rfl, hC⟩
  have HC2 := Lib.hid hC
  clear hC
  obtain ⟨k0, k1⟩ := HC2.out.cell (b := w.heap.size) (x := x) (by simp)
  obtain ⟨k2, k3⟩ := HC2.out.cell (b := w.heap.size + 1) (x := y) (by simp)
  have HS := Lib.hid (HC2.out.lift (fun lab P h hbs => by
    have h9 := markConst_any h n hwn
    rw [con3 n (x, true) k hn2] at h9
    exact h9))
  go_wp2_with fail
  refine HS.out.mono ?_
  clear HS k0 k1 k2 k3
  rintro e w12 ⟨rfl, hC⟩
  have HC3 := Lib.hid hC
  clear hC
  obtain ⟨k0, k1⟩ := HC3.out.cell (b := w.heap.size) (x := x) (by simp)
  obtain ⟨k2, k3⟩ := HC3.out.cell (b := w.heap.size + 1) (x := y) (by simp)
  have HS := Lib.hid (HC3.out.quiet (fun lab P h => by
    have h9 := same_below (special_any h n hwn)
    rw [con_mark] at h9
    exact h9))
  go_wp2_with fail
  refine HS.out.mono ?_
  clear HS k0 k1 k2 k3
  rintro e w13 ⟨rfl, hC⟩
  have HC4 := Lib.hid hC
  clear hC
  obtain ⟨k0, k1⟩ := HC4.out.cell (b := w.heap.size) (x := x) (by simp)
  obtain ⟨k2, k3⟩ := HC4.out.cell (b := w.heap.size + 1) (x := y) (by simp)
  have HS := Lib.hid (HC4.out.quiet (fun lab P h => by
    have h9 := same_below (const_any h n hwn)
    rw [con_mark] at h9
    exact h9))
  go_wp2_with fail
  refine HS.out.mono ?_
  clear HS k0 k1 k2 k3
  rintro e w14 ⟨rfl, hC⟩
  have HC5 := Lib.hid hC
  clear hC
  obtain ⟨k0, k1⟩ := HC5.out.cell (b := w.heap.size) (x := x) (by simp)
  obtain ⟨k2, k3⟩ := HC5.out.cell (b := w.heap.size + 1) (x := y) (by simp)
  clear k0 k1 k2 k3
  have HK := Lib.hid (fun W (hW : Below w14.heap.size w14 W) => (HC5.out.later hW).cell (b := w.heap.size + 1) (x := y) (by simp))
  have H1 := Lib.hid (fun W (hW : Below w14.heap.size w14 W) => (HC5.out.later hW).is.elim fun lab h1 => h1.elim fun P h2 => set_c h2.1 n y hwn (con_change n _ k hn2))
  have H2 := Lib.hid (fun W (hW : Below w14.heap.size w14 W) => (HC5.out.later hW).is.elim fun lab h1 => h1.elim fun P h2 => clear_c h2.1 n hwn (con_change n _ k hn2))
  have H3 := Lib.hid (fun W (hW : Below w14.heap.size w14 W) => (HC5.out.later hW).is.elim fun lab h1 => h1.elim fun P h2 => bind_c h2.1 n y hwn (con_change n _ k hn2))
  have H4 := Lib.hid (fun W (hW : Below w14.heap.size w14 W) => (HC5.out.later hW).is.elim fun lab h1 => h1.elim fun P h2 => makeLocal_c h2.1 n hwn (con_change n _ k hn2))
  have H5 := Lib.hid (fun W (hW : Below w14.heap.size w14 W) => (HC5.out.later hW).is.elim fun lab h1 => h1.elim fun P h2 => setLocal_c h2.1 n k y hwn hk2 (con_change n _ k hn2))
  have H6 := Lib.hid (fun W (hW : Below w14.heap.size w14 W) => (HC5.out.later hW).is.elim fun lab h1 => h1.elim fun P h2 => setDefault_c h2.1 n y hwn (con_change n _ k hn2))
  have HBx := Lib.hid (Below.refl w14.heap.size w14).drew
  obtain ⟨k2, k3⟩ := HK.out _ (Below.refl _ _)
  go_wp2_with fail
  go_region_held3 (fun w' => w'.cell? ⟨w.heap.size + 1, 0, none⟩ = some (.int .i64 y.1) ∧ w'.cell? ⟨w.heap.size + 1, 1, none⟩ = some (.int .i64 y.2))
    (first | (have s0 := HK.out _ HBx.out; with_reducible exact s0) | (have s0 := HK.out _ (HBx.out.alloc HBx.out.size (.cells #[.int .i64 10, .int .i64 10, .int .i64 10, .int .i64 10, .int .i64 10, .int .i64 10] 26)); with_reducible exact s0))
    (first
      | (go_at_call 23; refine (H1.out _ HBx.out).mono ?_; rintro e w9 ⟨rfl, hb9⟩; have HBx : Hid (Below w14.heap.size w14 w9) := HBx.out.trans (hb9.mono HBx.out.size); clear hb9)
      | (go_at_call 32; refine (H2.out _ HBx.out).mono ?_; rintro e w9 ⟨rfl, hb9⟩; have HBx : Hid (Below w14.heap.size w14 w9) := HBx.out.trans (hb9.mono HBx.out.size); clear hb9)
      | (go_at_call 13; refine (H3.out _ HBx.out).mono ?_; rintro e w9 ⟨rfl, hb9⟩; have HBx : Hid (Below w14.heap.size w14 w9) := HBx.out.trans (hb9.mono HBx.out.size); clear hb9)
      | (go_at_call 22; refine (H4.out _ HBx.out).mono ?_; rintro e w9 ⟨rfl, hb9⟩; have HBx : Hid (Below w14.heap.size w14 w9) := HBx.out.trans (hb9.mono HBx.out.size); clear hb9)
      | (go_at_call 21; refine (H5.out _ HBx.out).mono ?_; rintro e w9 ⟨rfl, hb9⟩; have HBx : Hid (Below w14.heap.size w14 w9) := HBx.out.trans (hb9.mono HBx.out.size); clear hb9)
      | (go_at_call 20; refine (H6.out _ HBx.out).mono ?_; rintro e w9 ⟨rfl, hb9⟩; have HBx : Hid (Below w14.heap.size w14 w9) := HBx.out.trans (hb9.mono HBx.out.size); clear hb9))
  have hC := (HC5.out.later HBx.out).later (box_below w9 (.cells #[.int .i64 10, .int .i64 10, .int .i64 10, .int .i64 10, .int .i64 10, .int .i64 10] 26))
  have r9 := Blk.new w9 #[.int .i64 10, .int .i64 10, .int .i64 10, .int .i64 10, .int .i64 10, .int .i64 10] 26
  obtain ⟨W9, hW9⟩ : ∃ W9, w9.alloc (.cells #[.int .i64 10, .int .i64 10, .int .i64 10, .int .i64 10, .int .i64 10, .int .i64 10] 26) = W9 := ⟨_, rfl⟩
  obtain ⟨b9, hb9⟩ : ∃ b9, w9.heap.size = b9 := ⟨_, rfl⟩
  rw [hW9] at hC r9 ⊢
  rw [hb9] at r9 ⊢
  have HR := Lib.hid r9
  have HCC := Lib.hid hC
  clear hC r9 hW9 hb9 k2 k3 HBx H1 H2 H3 H4 H5 H6 HK
  go_wp2_with fail
  go_loop [11] (fun i => ∃ q : Nat, q ≤ 6 ∧ i = .int .i64 (q : Int)) (fun i => 6 - (intOf i).toNat)
  case atStart => exact ⟨0, by omega, rfl⟩
  case round =>
    obtain ⟨q, hq, rfl⟩ := hrel
    by_cases hlt : q < 6
    · have c9 := tens HR.out q hlt
      have hz : (q : Int) < 6 := by omega
      go_wp2_with fail
      go_round
      case rel => exact ⟨q + 1, by omega, by go_num⟩
      case measure => simp [intOf]; omega
    · obtain rfl : q = 6 := by omega
      clear hlt hq HR
      have HS := Lib.hid (HCC.out.quiet (fun lab P h => by
        have h9 := get_any h n hwn
        rw [con_get n (x, true) k hk2 hn2.1] at h9
        exact h9))
      go_wp2_with fail
      refine HS.out.mono ?_
      clear HS
      rintro e w20 ⟨rfl, hC⟩
      have HCD := Lib.hid (hC.alloc x)
      obtain ⟨p2, hp2, hP2⟩ := pick_nat n 16382 (by omega) (by omega)
      have HP2 := Lib.hid hP2
      clear hC hP2
      go_wp2_with fail
      refine (HP2.out _).mono ?_
      rintro e w20' ⟨rfl, rfl⟩
      obtain ⟨m, hm⟩ : ∃ m : Int, 2 + (p2 : Int) = m := ⟨_, rfl⟩
      have hm2 : 2 ≤ m ∧ m < 16384 := by omega
      obtain ⟨k0, k1⟩ := HCD.out.cell (b := w.heap.size) (x := x) (by simp)
      obtain ⟨k2, k3⟩ := HCD.out.cell (b := w.heap.size + 1) (x := y) (by simp)
      obtain ⟨k4, k5⟩ := HCD.out.cell (b := w20.heap.size) (x := x) (by simp)
      have HDe := Lib.hid (HCD.out.is.elim fun lab h1 => h1.elim fun P h2 => depth_any h2.1)
      rw [show ((cS n (x, true) k).binds.length : Int) = 0 from rfl] at HDe
      have HLo := Lib.hid (HCD.out.is.elim fun lab h1 => h1.elim fun P h2 => locals_none h2.1 k hk2 (con_has n _ k hk2.1))
      have HMm := Lib.hid hm
      clear hm
      go_wp2_with fail
      refine HDe.out.mono ?_
      rintro e w20'' ⟨rfl, rfl⟩
      rw [HMm.out]
      clear HMm hp2 HP2 HDe
      by_cases hne : m = n
      · have e1 : (m == n) = true := beq_iff_eq.2 hne
        have HX := Lib.hid HCD.out.below
        clear hne
        go_wp2_with (go_at_call 28; refine HLo.out.mono ?_; rintro e w21 ⟨rfl, hb21⟩)
        go_ret
        exact ⟨rfl, HX.out.trans (hb21.mono HX.out.size)⟩
      · have e1 : (m == n) = false := beq_eq_false_iff_ne.2 hne
        have HCE := Lib.hid hne
        clear hne
        go_wp2_with (first
          | (go_at_call 28; refine HLo.out.mono ?_; rintro e w21 ⟨rfl, hb21⟩; have HC21 := Lib.hid (HCD.out.later hb21); obtain ⟨j2, j3⟩ := HC21.out.cell (b := w.heap.size + 1) (x := y) (by simp); have HS := Lib.hid (HC21.out.lift (fun lab P h hbs => by have h9 := set_any h hbs m y (by unfold Wf; omega); rw [con_other n m (x, true) (y, true) k hm2 HCE.out] at h9; exact h9)); clear hb21)
          | (go_at_call 23; refine HS.out.mono ?_; rintro e w22 ⟨rfl, hC22⟩))
        go_ret
        exact ⟨rfl, hC22.below⟩
end Go.Proofs.Ytkbdonecbepfnaa.Vs
