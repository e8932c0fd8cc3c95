/- The walk of VarsDeep. -/
import Derived.Test.YtkbdonecbepfnaaVsLives
import Derived.LoopTactic
import Derived.Outline
namespace Go.Proofs.Ytkbdonecbepfnaa.Vs
set_option maxRecDepth 100000
open Go.RowKit
open Go.Proofs.Ytkbdonecbepfnaa.Own

theorem uS_length (n : Int) (i k : Nat) : (uS n i k).binds.length = k := lD_length n k
set_option maxHeartbeats 16000000 in
theorem deep_walk (x0 x1 : Int) (w : World) (_ : Wf x0) (_ : Wf x1) : Calls Try.prog 6 #[.int .i64 x0, .int .i64 x1] w fun e w' => e = .returned (.bool true) ∧ Below w.heap.size w w' := by
  have HL := Lib.hid (lives_any w)
  obtain ⟨p, hp, hP⟩ := pick_nat x0 16382 (by omega) (by omega)
  obtain ⟨kd, hkd, hQ⟩ := pick_nat x1 2001 (by omega) (by omega)
  have HP := Lib.hid hP
  have HQ := Lib.hid hQ
  clear hP hQ
  go_enter Try.func6, Try.ntmps6
  go_wp2_with fail
  refine HL.out.mono ?_
  rintro e w1 ⟨rfl, hb1⟩
  have HB1 := Lib.hid hb1
  clear hb1
  go_wp2_with fail
  refine (HP.out _).mono ?_
  rintro e w1' ⟨rfl, rfl⟩
  go_wp2_with fail
  refine (new_any _).mono ?_
  rintro e w2 ⟨rfl, hb2, lab2, P2, hI2⟩
  obtain ⟨n, hn⟩ : ∃ n : Int, 2 + (p : Int) = n := ⟨_, rfl⟩
  obtain ⟨vp, hvp⟩ : ∃ vp, w1.heap.size + 1 + 1 = vp := ⟨_, rfl⟩
  obtain ⟨bs, hbs⟩ : ∃ bs, w1.heap.size = bs := ⟨_, rfl⟩
  have hn2 : 2 ≤ n ∧ n < 16384 := by omega
  rw [hvp, hbs, ← dS_zero n hn2.1] at hI2
  rw [hn, hvp]
  have hbw : w.heap.size ≤ bs := by rw [← hbs]; exact HB1.out.size
  have HB2 := Lib.hid (HB1.out.trans (hb2.mono HB1.out.size))
  have HS2 := Lib.hid (show bs ≤ w2.heap.size by rw [← hbs]; exact hb2.size)
  have HI2 := Lib.hid hI2
  clear hI2 hb2 hn hvp hbs hp HP HL HB1
  have hwn : Wf n := by unfold Wf; omega
  go_wp2_with fail
  go_loopw [6] (fun i wr => ∃ k : Nat, k ≤ 2000 ∧ i = .int .i64 (k : Int) ∧ Below w.heap.size w wr ∧ bs ≤ wr.heap.size ∧ ∃ lab P, VsIs wr bs vp (dS n k) lab P) (fun i _ => 2000 - (intOf i).toNat)
  case atStart => exact ⟨0, by omega, rfl, HB2.out, HS2.out, _, _, HI2.out⟩
  case round =>
    obtain ⟨k, hk, rfl, hb, hbse, lab, P, hI⟩ := hrel
    by_cases hlt : k < 2000
    · have HB := Lib.hid hb
      have HI := Lib.hid hI
      clear hb hI
      have hz : (k : Int) < 2000 := by omega
      go_wp2_with fail
      refine (int1_any _ _).mono ?_
      rintro e w3 ⟨rfl, hb3⟩
      have HI3 := Lib.hid (HI.out.below hb3)
      have HB3 := Lib.hid (HB.out.trans (hb3.mono HB.out.size))
      have HS3 := Lib.hid (Nat.le_trans hbse hb3.size)
      have hs := bind_any HI3.out HS3.out n (0, (k : Int)) hwn
      rw [dS_bind n k hn2 hlt] at hs
      have HS := Lib.hid hs
      clear hb3 hs
      go_wp2_with fail
      refine HS.out.mono ?_
      rintro e w4 ⟨rfl, lab4, P4, hI4, hA4⟩
      have hb4 := VAfter.bel HI3.out HS3.out hA4
      have HB4 := Lib.hid (HB3.out.trans (hb4.mono hbw))
      have HS4 := Lib.hid (Nat.le_trans HS3.out hA4.keeps.size)
      have HI4 := Lib.hid hI4
      clear hI4 hA4 hb4
      go_wp2_with fail
      go_roundw
      case rel => exact ⟨k + 1, by omega, by go_num, HB4.out, HS4.out, _, _, HI4.out⟩
      case measure => simp [intOf]; omega
    · obtain rfl : k = 2000 := by omega
      have HB := Lib.hid hb
      have HI := Lib.hid hI
      clear hb hI hlt hk
      go_wp2_with fail
      refine (HQ.out _).mono ?_
      rintro e w3' ⟨rfl, rfl⟩
      go_wp2_with fail
      refine (int1_any _ _).mono ?_
      rintro e w3 ⟨rfl, hb3⟩
      have HI3 := Lib.hid (HI.out.below hb3)
      have HB3 := Lib.hid (HB.out.trans (hb3.mono HB.out.size))
      have HS3 := Lib.hid (Nat.le_trans hbse hb3.size)
      have hs := bind_any HI3.out HS3.out n (0, -1) hwn
      rw [dS_full n (0, -1) 2000 hn2 (Nat.le_refl _)] at hs
      have HS := Lib.hid hs
      clear hb3 hs
      go_wp2_with fail
      refine HS.out.mono ?_
      rintro e w4 ⟨rfl, lab4, P4, hI4, hA4⟩
      have hb4 := VAfter.bel HI3.out HS3.out hA4
      have HB4 := Lib.hid (HB3.out.trans (hb4.mono hbw))
      have HS4 := Lib.hid (Nat.le_trans HS3.out hA4.keeps.size)
      have HI4 := Lib.hid hI4
      have hs := unbind_any HI4.out (dS_good n 2000) (kd : Int)
      rw [dS_unbind n 2000 kd (by omega) (by omega)] at hs
      have HS5 := Lib.hid hs
      clear hI4 hA4 hb4 hs
      go_wp2_with fail
      refine HS5.out.mono ?_
      rintro e w5 ⟨rfl, lab5, P5, hI5, hA5⟩
      have hb5 := VAfter.bel HI4.out HS4.out hA5
      have HB5 := Lib.hid (HB4.out.trans (hb5.mono hbw))
      have hs := get_any hI5 n hwn
      rw [uS_get n 2000 kd (by omega) (by omega)] at hs
      have HI5 := Lib.hid hI5
      clear hI5 hA5 hb5
      by_cases h0 : kd = 0
      · rw [if_pos h0] at hs
        have HS6 := Lib.hid hs
        have e1 : ((kd : Int) == 0) = true := beq_iff_eq.2 (by omega)
        have e2 : (kd == 0) = true := beq_iff_eq.2 h0
        have e3 : decide ((0 : Int) < (kd : Int)) = false := decide_eq_false (by omega)
        have e4 : decide (0 < kd) = false := decide_eq_false (by omega)
        clear hs h0
        go_wp2_with fail
        refine HS6.out.mono ?_
        rintro e w6 ⟨rfl, hb6⟩
        have hI6 := (HI5.out.below hb6).alloc (wbox (0, 0))
        have hB6 := (HB5.out.trans (hb6.mono HB5.out.size)).alloc (HB5.out.trans (hb6.mono HB5.out.size)).size (wbox (0, 0))
        have HD := Lib.hid (fun W (hW : Below (w6.alloc (.cells #[.int .i64 0, .int .i64 0] 29)).heap.size (w6.alloc (.cells #[.int .i64 0, .int .i64 0] 29)) W) => same_below (depth_any (hI6.below hW)))
        have HU := Lib.hid (fun W (hW : Below (w6.alloc (.cells #[.int .i64 0, .int .i64 0] 29)).heap.size (w6.alloc (.cells #[.int .i64 0, .int .i64 0] 29)) W) => unbind_more (hI6.below hW) ((kd : Int) + 1) (by rw [uS_length]; omega))
        rw [uS_length] at HD
        have HB6 := Lib.hid hB6
        clear hb6 hI6 hB6
        go_wp2_with fail
        refine wp_region_grown (w6.alloc (.cells #[.int .i64 0, .int .i64 0] 29)) (Below.refl _ _) (by kernel_rfl) (by kernel_rfl) ?_
        repeat (go_big_quiet_step ((first
          | (go_at_call 33; exact grown_call (fun w _ => int1_any _ w))
          | (go_at_call 11; exact grown_call HD.out)
          | (go_at_call 16; exact grown_call HU.out))))
        refine wpQuiet_nil ?_
        rintro _ ⟨x, rfl⟩
        have HX := Lib.hid (HB6.out.trans (x.below.mono HB6.out.size))
        go_wp2_with fail
        go_ret
        exact ⟨rfl, HX.out⟩
      · rw [if_neg h0] at hs
        have HS6 := Lib.hid hs
        have e1 : ((kd : Int) == 0) = false := beq_eq_false_iff_ne.2 (by omega)
        have e2 : (kd == 0) = false := beq_eq_false_iff_ne.2 h0
        have e3 : decide ((0 : Int) < (kd : Int)) = true := decide_eq_true (by omega)
        have e4 : decide (0 < kd) = true := decide_eq_true (by omega)
        have e5 : (0 : Int) < (kd : Int) := by omega
        clear hs h0
        go_wp2_with fail
        refine HS6.out.mono ?_
        rintro e w6 ⟨rfl, hb6⟩
        have hI6 := (HI5.out.below hb6).alloc (wbox (0, (kd : Int) - 1))
        have hB6 := (HB5.out.trans (hb6.mono HB5.out.size)).alloc (HB5.out.trans (hb6.mono HB5.out.size)).size (wbox (0, (kd : Int) - 1))
        have HD := Lib.hid (fun W (hW : Below (w6.alloc (.cells #[.int .i64 0, .int .i64 ((kd : Int) - 1)] 29)).heap.size (w6.alloc (.cells #[.int .i64 0, .int .i64 ((kd : Int) - 1)] 29)) W) => same_below (depth_any (hI6.below hW)))
        have HU := Lib.hid (fun W (hW : Below (w6.alloc (.cells #[.int .i64 0, .int .i64 ((kd : Int) - 1)] 29)).heap.size (w6.alloc (.cells #[.int .i64 0, .int .i64 ((kd : Int) - 1)] 29)) W) => unbind_more (hI6.below hW) ((kd : Int) + 1) (by rw [uS_length]; omega))
        rw [uS_length] at HD
        have r6 := Blk.new w6 #[.int .i64 0, .int .i64 ((kd : Int) - 1)] 29
        have q1 := fun x : Grown (w6.alloc (.cells #[.int .i64 0, .int .i64 ((kd : Int) - 1)] 29)) => (r6.below x.below).cell 0 _ rfl
        have q2 := fun x : Grown (w6.alloc (.cells #[.int .i64 0, .int .i64 ((kd : Int) - 1)] 29)) => (r6.below x.below).cell 1 _ rfl
        have HB6 := Lib.hid hB6
        clear r6
        clear hb6 hI6 hB6
        go_wp2_with fail
        refine wp_region_grown (w6.alloc (.cells #[.int .i64 0, .int .i64 ((kd : Int) - 1)] 29)) (Below.refl _ _) (by kernel_rfl) (by kernel_rfl) ?_
        repeat (go_big_quiet_step ((first
          | (go_at_call 33; exact grown_call (fun w _ => int1_any _ w))
          | (go_at_call 11; exact grown_call HD.out)
          | (go_at_call 16; exact grown_call HU.out))))
        refine wpQuiet_nil ?_
        rintro _ ⟨x, rfl⟩
        have HX := Lib.hid (HB6.out.trans (x.below.mono HB6.out.size))
        go_wp2_with fail
        go_ret
        exact ⟨rfl, HX.out⟩
end Go.Proofs.Ytkbdonecbepfnaa.Vs
