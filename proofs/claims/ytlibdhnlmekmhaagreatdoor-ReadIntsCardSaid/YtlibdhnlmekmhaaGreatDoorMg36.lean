/- ReadInts: the walk of the statement. | ReadInts: the walk of the statement. -/
import Derived.Test.YtlibdhnlmekmhaaGreatDoorMg35
/- ReadInts: the walk of the statement. -/
section
namespace Go.Proofs.YtlibdhnlmekmhaaGreatDoor.Rd
set_option maxRecDepth 100000
open Go.RowKit Go.Maps Go.Lib
open Go.Proofs.YtlibdhnlmekmhaaGreatDoor.Own Go.Proofs.YtlibdhnlmekmhaaGreatDoor.Hp Go.Proofs.YtlibdhnlmekmhaaGreatDoor.Rep Go.Proofs.YtlibdhnlmekmhaaGreatDoor.Get Go.Proofs.YtlibdhnlmekmhaaGreatDoor.Add Go.Proofs.YtlibdhnlmekmhaaGreatDoor.Make Go.Proofs.YtlibdhnlmekmhaaGreatDoor.Utf Go.Proofs.YtlibdhnlmekmhaaGreatDoor.Strs Go.Proofs.YtlibdhnlmekmhaaGreatDoor.Clone Go.Proofs.YtlibdhnlmekmhaaGreatDoor.Car Go.Proofs.YtlibdhnlmekmhaaGreatDoor.Kit
open Go.Proofs.YtlibdhnlmekmhaaGreatDoor.Nt hiding Wd

theorem NS.many {w wr : World} {lim tp : Nat} {ob : Obs} {tb : Tb} {bs : List Bx} (h : NS w wr lim tp ob tb bs) :
    Reads wr 25 #[ptr w.heap.size] (.int .i64 (manyTo ob lim : Int)) := by
  intro w1 hb
  obtain ⟨F, hH, _⟩ := h.st
  obtain ⟨lh, lt, PH, PT, hH, hT, hd, hF⟩ := (hH.below hb).is
  refine (Quick.many_any hH).mono ?_
  rintro e w' ⟨rfl, q, rfl⟩
  exact ⟨rfl, ⟨rfl, rfl, rfl, Nat.le_refl _, fun _ _ => rfl⟩⟩
theorem many_none (lim : Nat) : manyTo Quick.noObs lim = 0 := (manyTo_more Quick.noObs 0 lim (by omega) (fun _ _ => rfl)).trans rfl

set_option maxHeartbeats 8000000 in
theorem ints_pin (m z : Nat)  (x1 : Int) (len : Int) (w : World) (hS : Sys w) (hm : m < 9223372036854775808) (hz : Nt.pickZ x1 40 = (z : Int)) (hz2 : z ≤ 40) (hc : (m : Int) ≤ 2305843009213693951)
    (hI : ∀ S : ByteArray, S.data.toList = enc (numZ z m) → (S.size : Int) = len ∧ I3 S (0, (m : Int)) len 0 (0, (-(m : Int))) (len + 1) 0 (0, (m : Int)) (len + 1) 0) (hlen : 0 ≤ len ∧ len ≤ 100) :
    Calls Tryz.prog 6 #[.int .i64 (m : Int), .int .i64 x1] w fun e w' => e = .returned (.bool true) ∧ Below w.heap.size w w' := by
  have HL := Lib.hid (lives_any w hS)
  have HS0 := Lib.hid hS
  have HI := Lib.hid hI
  have HLen := Lib.hid hlen
  have HM := Lib.hid hm
  have HZ := Lib.hid hz2
  have HPk := Lib.hid (fun w => Nt.pick_any x1 40 w (by omega) (by omega))
  rw [hz] at HPk
  have hd : decide ((m : Int) < 0) = false := by simp
  have hgt : decide ((2305843009213693951 : Int) < (m : Int)) = false := by simp; omega
  clear hS hI hlen hm hz2 hc hz
  go_enter Tryz.func6, Tryz.ntmps6
  go_wp2_with fail
  refine HL.out.mono ?_
  rintro e w1 ⟨rfl, hb1⟩
  have HB1 := Lib.hid hb1
  have HS := Lib.hid (HS0.out.below hb1)
  clear hb1
  go_wp2_with fail
  refine (FStep.of (lim := 1) (by omega) (by omega) w1 HS.out.tabs).mono ?_
  rintro e w2 ⟨tp, rfl, hN⟩
  have HN := Lib.hid hN
  clear hN
  go_wp2_with fail
  refine (HPk.out _).mono ?_
  rintro e w' ⟨rfl, rfl⟩
  go_wp2_with fail
  refine (times_any ⟨#[48]⟩ z _ (by decide) (by have := HZ.out; omega)).mono ?_
  rintro e w' ⟨⟨R, rfl, hR⟩, rfl⟩
  have HR := Lib.hid hR
  clear hR
  go_wp2_with fail
  have hdg := digits_any m HM.out
  have hbt := numZ_bytes (n := m) HR.out
  obtain ⟨P, hP⟩ : ∃ P, strOf (enc (decZ m)) = P := ⟨_, rfl⟩
  rw [hP] at hdg hbt
  have hi := HI.out (R ++ P) hbt
  have hs0 : (R ++ P).size = R.size + P.size := by simp
  have hlen := HLen.out
  have hsz0 : R.size + P.size ≤ 100 := by omega
  have hn1 : ¬ 9223372036854775807 < R.size + P.size := by omega
  refine (hdg _).mono ?_
  clear hdg hbt hP
  rintro e w3 ⟨rfl, hb3⟩
  have hn := HN.out.later hb3
  clear HN
  have HN := Lib.hid hn
  clear hn hb3
  go_wp2_with fail
  obtain ⟨S, hS⟩ : ∃ S, R ++ P = S := ⟨_, rfl⟩
  rw [hS] at hi hs0 ⊢
  have hsz := hi.1
  have H3 := Lib.hid hi.2
  have hn2 : ¬ 9223372036854775807 < 1 + S.size := by omega
  have hn3 : ¬ 9223372036854775807 < 1 + S.size + 1 := by omega
  clear hs0 hsz0 hn1 hlen
  clear hS hi HR HI HPk
  refine (H3.out.r1 _ _ tp _ HS.out HN.out).mono ?_
  rintro e u1 ⟨rfl, hn⟩
  have hn2 := hn.two 0 (m : Int) 0 0
  clear HN hn
  have HN0 := Lib.hid hn2
  clear hn2
  go_wp2_with fail
  obtain ⟨v1, hv1⟩ : ∃ v, (u1.alloc (wob 0 (m : Int))).alloc (fob 0 0) = v := ⟨_, rfl⟩
  have hn2 := HN0.out
  rw [hv1] at hn2
  have HN := Lib.hid hn2
  rw [hv1]
  clear hn2 HN0 hv1
  refine (H3.out.r2 _ _ tp _ HS.out HN.out).mono ?_
  rintro e u2 ⟨rfl, hn⟩
  have hn2 := hn.two 0 (-(m : Int)) 0 0
  clear HN hn
  have HN0 := Lib.hid hn2
  clear hn2
  go_wp2_with fail
  obtain ⟨v2, hv2⟩ : ∃ v, (u2.alloc (wob 0 (-(m : Int)))).alloc (fob 0 0) = v := ⟨_, rfl⟩
  have hn2 := HN0.out
  rw [hv2] at hn2
  have HN := Lib.hid hn2
  rw [hv2]
  clear hn2 HN0 hv2
  refine (H3.out.r3 _ _ tp _ HS.out HN.out).mono ?_
  rintro e u3 ⟨rfl, hn⟩
  have hn2 := hn.two 0 (m : Int) 0 0
  clear HN hn
  have HN0 := Lib.hid hn2
  clear hn2
  go_wp2_with fail
  obtain ⟨v3, hv3⟩ : ∃ v, (u3.alloc (wob 0 (m : Int))).alloc (fob 0 0) = v := ⟨_, rfl⟩
  have hn2 := HN0.out
  rw [hv3] at hn2
  have HN := Lib.hid hn2
  rw [hv3]
  clear hn2 HN0 hv3
  have p1a := HN.out.cell (wbx u1.heap.size 0 (m : Int)) (by simp) 0 _ rfl
  have p1b := HN.out.cell (wbx u1.heap.size 0 (m : Int)) (by simp) 1 _ rfl
  have p1c := HN.out.cell (fbx (u1.heap.size + 1) 0 0) (by simp) 0 _ rfl
  have p1d := HN.out.cell (fbx (u1.heap.size + 1) 0 0) (by simp) 1 _ rfl
  have p2a := HN.out.cell (wbx u2.heap.size 0 (-(m : Int))) (by simp) 0 _ rfl
  have p2b := HN.out.cell (wbx u2.heap.size 0 (-(m : Int))) (by simp) 1 _ rfl
  have p2c := HN.out.cell (fbx (u2.heap.size + 1) 0 0) (by simp) 0 _ rfl
  have p2d := HN.out.cell (fbx (u2.heap.size + 1) 0 0) (by simp) 1 _ rfl
  have p3a := HN.out.cell (wbx u3.heap.size 0 (m : Int)) (by simp) 0 _ rfl
  have p3b := HN.out.cell (wbx u3.heap.size 0 (m : Int)) (by simp) 1 _ rfl
  have p3c := HN.out.cell (fbx (u3.heap.size + 1) 0 0) (by simp) 0 _ rfl
  have p3d := HN.out.cell (fbx (u3.heap.size + 1) 0 0) (by simp) 1 _ rfl
  have HMa := Lib.hid HN.out.many
  rw [many_none] at HMa
  have hwr : wrap64 (-(m : Int)) = -(m : Int) := by have := HM.out; unfold wrap64; omega
  refine wp_region_grown v3 (Below.refl _ _) (by kernel_rfl) (by kernel_rfl) ?_
  repeat (go_big_quiet_step (first
    | (go_at_call 20; exact grown_call (fun w _ => Kit.int_any _ w))
    | (go_at_call 25; exact grown_call HMa.out)))
  refine wpQuiet_nil ?_
  rintro _ ⟨x, rfl⟩
  have HX := Lib.hid ((HB1.out.trans (HN.out.below.mono HB1.out.size)).trans (x.below.mono ((HB1.out.trans (HN.out.below.mono HB1.out.size)).size)))
  go_wp2_with fail
  go_ret
  exact ⟨rfl, HX.out⟩

set_option maxHeartbeats 8000000 in
theorem ints_pmin (m z : Nat)  (x1 : Int) (len : Int) (w : World) (hS : Sys w) (hm : m < 9223372036854775808) (hz : Nt.pickZ x1 40 = (z : Int)) (hz2 : z ≤ 40) (hc : m = 2305843009213693952)
    (hI : ∀ S : ByteArray, S.data.toList = enc (numZ z m) → (S.size : Int) = len ∧ I3 S (0, 0) 0 15 (0, (-2305843009213693952)) (len + 1) 0 (0, 0) 0 15) (hlen : 0 ≤ len ∧ len ≤ 100) :
    Calls Tryz.prog 6 #[.int .i64 (m : Int), .int .i64 x1] w fun e w' => e = .returned (.bool true) ∧ Below w.heap.size w w' := by
  have HL := Lib.hid (lives_any w hS)
  have HS0 := Lib.hid hS
  have HI := Lib.hid hI
  have HLen := Lib.hid hlen
  have HM := Lib.hid hm
  have HZ := Lib.hid hz2
  have HPk := Lib.hid (fun w => Nt.pick_any x1 40 w (by omega) (by omega))
  rw [hz] at HPk
  have hd : decide ((m : Int) < 0) = false := by simp
  have hgt : decide ((2305843009213693951 : Int) < (m : Int)) = true := by simp; omega
  have hsm : ((m : Int) == 2305843009213693952) = true := by simp; omega
  clear hS hI hlen hm hz2 hc hz
  go_enter Tryz.func6, Tryz.ntmps6
  go_wp2_with fail
  refine HL.out.mono ?_
  rintro e w1 ⟨rfl, hb1⟩
  have HB1 := Lib.hid hb1
  have HS := Lib.hid (HS0.out.below hb1)
  clear hb1
  go_wp2_with fail
  refine (FStep.of (lim := 1) (by omega) (by omega) w1 HS.out.tabs).mono ?_
  rintro e w2 ⟨tp, rfl, hN⟩
  have HN := Lib.hid hN
  clear hN
  go_wp2_with fail
  refine (HPk.out _).mono ?_
  rintro e w' ⟨rfl, rfl⟩
  go_wp2_with fail
  refine (times_any ⟨#[48]⟩ z _ (by decide) (by have := HZ.out; omega)).mono ?_
  rintro e w' ⟨⟨R, rfl, hR⟩, rfl⟩
  have HR := Lib.hid hR
  clear hR
  go_wp2_with fail
  have hdg := digits_any m HM.out
  have hbt := numZ_bytes (n := m) HR.out
  obtain ⟨P, hP⟩ : ∃ P, strOf (enc (decZ m)) = P := ⟨_, rfl⟩
  rw [hP] at hdg hbt
  have hi := HI.out (R ++ P) hbt
  have hs0 : (R ++ P).size = R.size + P.size := by simp
  have hlen := HLen.out
  have hsz0 : R.size + P.size ≤ 100 := by omega
  have hn1 : ¬ 9223372036854775807 < R.size + P.size := by omega
  refine (hdg _).mono ?_
  clear hdg hbt hP
  rintro e w3 ⟨rfl, hb3⟩
  have hn := HN.out.later hb3
  clear HN
  have HN := Lib.hid hn
  clear hn hb3
  go_wp2_with fail
  obtain ⟨S, hS⟩ : ∃ S, R ++ P = S := ⟨_, rfl⟩
  rw [hS] at hi hs0 ⊢
  have hsz := hi.1
  have H3 := Lib.hid hi.2
  have hn2 : ¬ 9223372036854775807 < 1 + S.size := by omega
  have hn3 : ¬ 9223372036854775807 < 1 + S.size + 1 := by omega
  clear hs0 hsz0 hn1 hlen
  clear hS hi HR HI HPk
  refine (H3.out.r1 _ _ tp _ HS.out HN.out).mono ?_
  rintro e u1 ⟨rfl, hn⟩
  have hn2 := hn.two 0 0 15 0
  clear HN hn
  have HN0 := Lib.hid hn2
  clear hn2
  go_wp2_with fail
  obtain ⟨v1, hv1⟩ : ∃ v, (u1.alloc (wob 0 0)).alloc (fob 15 0) = v := ⟨_, rfl⟩
  have hn2 := HN0.out
  rw [hv1] at hn2
  have HN := Lib.hid hn2
  rw [hv1]
  clear hn2 HN0 hv1
  refine (H3.out.r2 _ _ tp _ HS.out HN.out).mono ?_
  rintro e u2 ⟨rfl, hn⟩
  have hn2 := hn.two 0 (-2305843009213693952) 0 0
  clear HN hn
  have HN0 := Lib.hid hn2
  clear hn2
  go_wp2_with fail
  obtain ⟨v2, hv2⟩ : ∃ v, (u2.alloc (wob 0 (-2305843009213693952))).alloc (fob 0 0) = v := ⟨_, rfl⟩
  have hn2 := HN0.out
  rw [hv2] at hn2
  have HN := Lib.hid hn2
  rw [hv2]
  clear hn2 HN0 hv2
  refine (H3.out.r3 _ _ tp _ HS.out HN.out).mono ?_
  rintro e u3 ⟨rfl, hn⟩
  have hn2 := hn.two 0 0 15 0
  clear HN hn
  have HN0 := Lib.hid hn2
  clear hn2
  go_wp2_with fail
  obtain ⟨v3, hv3⟩ : ∃ v, (u3.alloc (wob 0 0)).alloc (fob 15 0) = v := ⟨_, rfl⟩
  have hn2 := HN0.out
  rw [hv3] at hn2
  have HN := Lib.hid hn2
  rw [hv3]
  clear hn2 HN0 hv3
  have p1a := HN.out.cell (wbx u1.heap.size 0 0) (by simp) 0 _ rfl
  have p1b := HN.out.cell (wbx u1.heap.size 0 0) (by simp) 1 _ rfl
  have p1c := HN.out.cell (fbx (u1.heap.size + 1) 15 0) (by simp) 0 _ rfl
  have p1d := HN.out.cell (fbx (u1.heap.size + 1) 15 0) (by simp) 1 _ rfl
  have p2a := HN.out.cell (wbx u2.heap.size 0 (-2305843009213693952)) (by simp) 0 _ rfl
  have p2b := HN.out.cell (wbx u2.heap.size 0 (-2305843009213693952)) (by simp) 1 _ rfl
  have p2c := HN.out.cell (fbx (u2.heap.size + 1) 0 0) (by simp) 0 _ rfl
  have p2d := HN.out.cell (fbx (u2.heap.size + 1) 0 0) (by simp) 1 _ rfl
  have p3a := HN.out.cell (wbx u3.heap.size 0 0) (by simp) 0 _ rfl
  have p3b := HN.out.cell (wbx u3.heap.size 0 0) (by simp) 1 _ rfl
  have p3c := HN.out.cell (fbx (u3.heap.size + 1) 15 0) (by simp) 0 _ rfl
  have p3d := HN.out.cell (fbx (u3.heap.size + 1) 15 0) (by simp) 1 _ rfl
  have HMa := Lib.hid HN.out.many
  rw [many_none] at HMa
  have hwr : wrap64 (-(m : Int)) = -(m : Int) := by have := HM.out; unfold wrap64; omega
  refine wp_region_grown v3 (Below.refl _ _) (by kernel_rfl) (by kernel_rfl) ?_
  repeat (go_big_quiet_step (first
    | (go_at_call 20; exact grown_call (fun w _ => Kit.int_any _ w))
    | (go_at_call 25; exact grown_call HMa.out)))
  refine wpQuiet_nil ?_
  rintro _ ⟨x, rfl⟩
  have HX := Lib.hid ((HB1.out.trans (HN.out.below.mono HB1.out.size)).trans (x.below.mono ((HB1.out.trans (HN.out.below.mono HB1.out.size)).size)))
  go_wp2_with fail
  go_ret
  exact ⟨rfl, HX.out⟩

set_option maxHeartbeats 8000000 in
theorem ints_pout (m z : Nat)  (x1 : Int) (len : Int) (w : World) (hS : Sys w) (hm : m < 9223372036854775808) (hz : Nt.pickZ x1 40 = (z : Int)) (hz2 : z ≤ 40) (hc : 2305843009213693952 < (m : Int))
    (hI : ∀ S : ByteArray, S.data.toList = enc (numZ z m) → (S.size : Int) = len ∧ I3 S (0, 0) 0 15 (0, 0) 0 15 (0, 0) 0 15) (hlen : 0 ≤ len ∧ len ≤ 100) :
    Calls Tryz.prog 6 #[.int .i64 (m : Int), .int .i64 x1] w fun e w' => e = .returned (.bool true) ∧ Below w.heap.size w w' := by
  have HL := Lib.hid (lives_any w hS)
  have HS0 := Lib.hid hS
  have HI := Lib.hid hI
  have HLen := Lib.hid hlen
  have HM := Lib.hid hm
  have HZ := Lib.hid hz2
  have HPk := Lib.hid (fun w => Nt.pick_any x1 40 w (by omega) (by omega))
  rw [hz] at HPk
  have hd : decide ((m : Int) < 0) = false := by simp
  have hgt : decide ((2305843009213693951 : Int) < (m : Int)) = true := by simp; omega
  have hsm : ((m : Int) == 2305843009213693952) = false := by simp; omega
  clear hS hI hlen hm hz2 hc hz
  go_enter Tryz.func6, Tryz.ntmps6
  go_wp2_with fail
  refine HL.out.mono ?_
  rintro e w1 ⟨rfl, hb1⟩
  have HB1 := Lib.hid hb1
  have HS := Lib.hid (HS0.out.below hb1)
  clear hb1
  go_wp2_with fail
  refine (FStep.of (lim := 1) (by omega) (by omega) w1 HS.out.tabs).mono ?_
  rintro e w2 ⟨tp, rfl, hN⟩
  have HN := Lib.hid hN
  clear hN
  go_wp2_with fail
  refine (HPk.out _).mono ?_
  rintro e w' ⟨rfl, rfl⟩
  go_wp2_with fail
  refine (times_any ⟨#[48]⟩ z _ (by decide) (by have := HZ.out; omega)).mono ?_
  rintro e w' ⟨⟨R, rfl, hR⟩, rfl⟩
  have HR := Lib.hid hR
  clear hR
  go_wp2_with fail
  have hdg := digits_any m HM.out
  have hbt := numZ_bytes (n := m) HR.out
  obtain ⟨P, hP⟩ : ∃ P, strOf (enc (decZ m)) = P := ⟨_, rfl⟩
  rw [hP] at hdg hbt
  have hi := HI.out (R ++ P) hbt
  have hs0 : (R ++ P).size = R.size + P.size := by simp
  have hlen := HLen.out
  have hsz0 : R.size + P.size ≤ 100 := by omega
  have hn1 : ¬ 9223372036854775807 < R.size + P.size := by omega
  refine (hdg _).mono ?_
  clear hdg hbt hP
  rintro e w3 ⟨rfl, hb3⟩
  have hn := HN.out.later hb3
  clear HN
  have HN := Lib.hid hn
  clear hn hb3
  go_wp2_with fail
  obtain ⟨S, hS⟩ : ∃ S, R ++ P = S := ⟨_, rfl⟩
  rw [hS] at hi hs0 ⊢
  have hsz := hi.1
  have H3 := Lib.hid hi.2
  have hn2 : ¬ 9223372036854775807 < 1 + S.size := by omega
  have hn3 : ¬ 9223372036854775807 < 1 + S.size + 1 := by omega
  clear hs0 hsz0 hn1 hlen
  clear hS hi HR HI HPk
  refine (H3.out.r1 _ _ tp _ HS.out HN.out).mono ?_
  rintro e u1 ⟨rfl, hn⟩
  have hn2 := hn.two 0 0 15 0
  clear HN hn
  have HN0 := Lib.hid hn2
  clear hn2
  go_wp2_with fail
  obtain ⟨v1, hv1⟩ : ∃ v, (u1.alloc (wob 0 0)).alloc (fob 15 0) = v := ⟨_, rfl⟩
  have hn2 := HN0.out
  rw [hv1] at hn2
  have HN := Lib.hid hn2
  rw [hv1]
  clear hn2 HN0 hv1
  refine (H3.out.r2 _ _ tp _ HS.out HN.out).mono ?_
  rintro e u2 ⟨rfl, hn⟩
  have hn2 := hn.two 0 0 15 0
  clear HN hn
  have HN0 := Lib.hid hn2
  clear hn2
  go_wp2_with fail
  obtain ⟨v2, hv2⟩ : ∃ v, (u2.alloc (wob 0 0)).alloc (fob 15 0) = v := ⟨_, rfl⟩
  have hn2 := HN0.out
  rw [hv2] at hn2
  have HN := Lib.hid hn2
  rw [hv2]
  clear hn2 HN0 hv2
  refine (H3.out.r3 _ _ tp _ HS.out HN.out).mono ?_
  rintro e u3 ⟨rfl, hn⟩
  have hn2 := hn.two 0 0 15 0
  clear HN hn
  have HN0 := Lib.hid hn2
  clear hn2
  go_wp2_with fail
  obtain ⟨v3, hv3⟩ : ∃ v, (u3.alloc (wob 0 0)).alloc (fob 15 0) = v := ⟨_, rfl⟩
  have hn2 := HN0.out
  rw [hv3] at hn2
  have HN := Lib.hid hn2
  rw [hv3]
  clear hn2 HN0 hv3
  have p1a := HN.out.cell (wbx u1.heap.size 0 0) (by simp) 0 _ rfl
  have p1b := HN.out.cell (wbx u1.heap.size 0 0) (by simp) 1 _ rfl
  have p1c := HN.out.cell (fbx (u1.heap.size + 1) 15 0) (by simp) 0 _ rfl
  have p1d := HN.out.cell (fbx (u1.heap.size + 1) 15 0) (by simp) 1 _ rfl
  have p2a := HN.out.cell (wbx u2.heap.size 0 0) (by simp) 0 _ rfl
  have p2b := HN.out.cell (wbx u2.heap.size 0 0) (by simp) 1 _ rfl
  have p2c := HN.out.cell (fbx (u2.heap.size + 1) 15 0) (by simp) 0 _ rfl
  have p2d := HN.out.cell (fbx (u2.heap.size + 1) 15 0) (by simp) 1 _ rfl
  have p3a := HN.out.cell (wbx u3.heap.size 0 0) (by simp) 0 _ rfl
  have p3b := HN.out.cell (wbx u3.heap.size 0 0) (by simp) 1 _ rfl
  have p3c := HN.out.cell (fbx (u3.heap.size + 1) 15 0) (by simp) 0 _ rfl
  have p3d := HN.out.cell (fbx (u3.heap.size + 1) 15 0) (by simp) 1 _ rfl
  have HMa := Lib.hid HN.out.many
  rw [many_none] at HMa
  have hwr : wrap64 (-(m : Int)) = -(m : Int) := by have := HM.out; unfold wrap64; omega
  refine wp_region_grown v3 (Below.refl _ _) (by kernel_rfl) (by kernel_rfl) ?_
  repeat (go_big_quiet_step (first
    | (go_at_call 20; exact grown_call (fun w _ => Kit.int_any _ w))
    | (go_at_call 25; exact grown_call HMa.out)))
  refine wpQuiet_nil ?_
  rintro _ ⟨x, rfl⟩
  have HX := Lib.hid ((HB1.out.trans (HN.out.below.mono HB1.out.size)).trans (x.below.mono ((HB1.out.trans (HN.out.below.mono HB1.out.size)).size)))
  go_wp2_with fail
  go_ret
  exact ⟨rfl, HX.out⟩
end Go.Proofs.YtlibdhnlmekmhaaGreatDoor.Rd
end

/- ReadInts: the walk of the statement. -/
section
namespace Go.Proofs.YtlibdhnlmekmhaaGreatDoor.Rd
set_option maxRecDepth 100000
open Go.RowKit Go.Maps Go.Lib
open Go.Proofs.YtlibdhnlmekmhaaGreatDoor.Own Go.Proofs.YtlibdhnlmekmhaaGreatDoor.Hp Go.Proofs.YtlibdhnlmekmhaaGreatDoor.Rep Go.Proofs.YtlibdhnlmekmhaaGreatDoor.Get Go.Proofs.YtlibdhnlmekmhaaGreatDoor.Add Go.Proofs.YtlibdhnlmekmhaaGreatDoor.Make Go.Proofs.YtlibdhnlmekmhaaGreatDoor.Utf Go.Proofs.YtlibdhnlmekmhaaGreatDoor.Strs Go.Proofs.YtlibdhnlmekmhaaGreatDoor.Clone Go.Proofs.YtlibdhnlmekmhaaGreatDoor.Car Go.Proofs.YtlibdhnlmekmhaaGreatDoor.Kit
open Go.Proofs.YtlibdhnlmekmhaaGreatDoor.Nt hiding Wd


set_option maxHeartbeats 8000000 in
theorem ints_nin (m z : Nat) (n0 q : Int) (hd : decide (n0 < 0) = true) (hq : wrap64 (n0 + 1) = q) (hqm : wrap64 (-q) = (m : Int)) (x1 : Int) (len : Int) (w : World) (hS : Sys w) (hm : m < 9223372036854775808) (hz : Nt.pickZ x1 40 = (z : Int)) (hz2 : z ≤ 40) (hc : (m : Int) ≤ 2305843009213693951)
    (hI : ∀ S : ByteArray, S.data.toList = enc (numZ z m) → (S.size : Int) = len ∧ I3 S (0, (m : Int)) len 0 (0, (-(m : Int))) (len + 1) 0 (0, (m : Int)) (len + 1) 0) (hlen : 0 ≤ len ∧ len ≤ 100) :
    Calls Tryz.prog 6 #[.int .i64 n0, .int .i64 x1] w fun e w' => e = .returned (.bool true) ∧ Below w.heap.size w w' := by
  have HL := Lib.hid (lives_any w hS)
  have HS0 := Lib.hid hS
  have HI := Lib.hid hI
  have HLen := Lib.hid hlen
  have HM := Lib.hid hm
  have HZ := Lib.hid hz2
  have HPk := Lib.hid (fun w => Nt.pick_any x1 40 w (by omega) (by omega))
  rw [hz] at HPk
  have hgt : decide ((2305843009213693951 : Int) < (m : Int)) = false := by simp; omega
  clear hS hI hlen hm hz2 hc hz
  go_enter Tryz.func6, Tryz.ntmps6
  go_wp2_with fail
  refine HL.out.mono ?_
  rintro e w1 ⟨rfl, hb1⟩
  have HB1 := Lib.hid hb1
  have HS := Lib.hid (HS0.out.below hb1)
  clear hb1
  go_wp2_with fail
  refine (FStep.of (lim := 1) (by omega) (by omega) w1 HS.out.tabs).mono ?_
  rintro e w2 ⟨tp, rfl, hN⟩
  have HN := Lib.hid hN
  clear hN
  go_wp2_with fail
  refine (HPk.out _).mono ?_
  rintro e w' ⟨rfl, rfl⟩
  go_wp2_with fail
  refine (times_any ⟨#[48]⟩ z _ (by decide) (by have := HZ.out; omega)).mono ?_
  rintro e w' ⟨⟨R, rfl, hR⟩, rfl⟩
  have HR := Lib.hid hR
  clear hR
  go_wp2_with fail
  have hdg := digits_any m HM.out
  have hbt := numZ_bytes (n := m) HR.out
  obtain ⟨P, hP⟩ : ∃ P, strOf (enc (decZ m)) = P := ⟨_, rfl⟩
  rw [hP] at hdg hbt
  have hi := HI.out (R ++ P) hbt
  have hs0 : (R ++ P).size = R.size + P.size := by simp
  have hlen := HLen.out
  have hsz0 : R.size + P.size ≤ 100 := by omega
  have hn1 : ¬ 9223372036854775807 < R.size + P.size := by omega
  refine (hdg _).mono ?_
  clear hdg hbt hP
  rintro e w3 ⟨rfl, hb3⟩
  have hn := HN.out.later hb3
  clear HN
  have HN := Lib.hid hn
  clear hn hb3
  go_wp2_with fail
  obtain ⟨S, hS⟩ : ∃ S, R ++ P = S := ⟨_, rfl⟩
  rw [hS] at hi hs0 ⊢
  have hsz := hi.1
  have H3 := Lib.hid hi.2
  have hn2 : ¬ 9223372036854775807 < 1 + S.size := by omega
  have hn3 : ¬ 9223372036854775807 < 1 + S.size + 1 := by omega
  clear hs0 hsz0 hn1 hlen
  clear hS hi HR HI HPk
  refine (H3.out.r1 _ _ tp _ HS.out HN.out).mono ?_
  rintro e u1 ⟨rfl, hn⟩
  have hn2 := hn.two 0 (m : Int) 0 0
  clear HN hn
  have HN0 := Lib.hid hn2
  clear hn2
  go_wp2_with fail
  obtain ⟨v1, hv1⟩ : ∃ v, (u1.alloc (wob 0 (m : Int))).alloc (fob 0 0) = v := ⟨_, rfl⟩
  have hn2 := HN0.out
  rw [hv1] at hn2
  have HN := Lib.hid hn2
  rw [hv1]
  clear hn2 HN0 hv1
  refine (H3.out.r2 _ _ tp _ HS.out HN.out).mono ?_
  rintro e u2 ⟨rfl, hn⟩
  have hn2 := hn.two 0 (-(m : Int)) 0 0
  clear HN hn
  have HN0 := Lib.hid hn2
  clear hn2
  go_wp2_with fail
  obtain ⟨v2, hv2⟩ : ∃ v, (u2.alloc (wob 0 (-(m : Int)))).alloc (fob 0 0) = v := ⟨_, rfl⟩
  have hn2 := HN0.out
  rw [hv2] at hn2
  have HN := Lib.hid hn2
  rw [hv2]
  clear hn2 HN0 hv2
  refine (H3.out.r3 _ _ tp _ HS.out HN.out).mono ?_
  rintro e u3 ⟨rfl, hn⟩
  have hn2 := hn.two 0 (m : Int) 0 0
  clear HN hn
  have HN0 := Lib.hid hn2
  clear hn2
  go_wp2_with fail
  obtain ⟨v3, hv3⟩ : ∃ v, (u3.alloc (wob 0 (m : Int))).alloc (fob 0 0) = v := ⟨_, rfl⟩
  have hn2 := HN0.out
  rw [hv3] at hn2
  have HN := Lib.hid hn2
  rw [hv3]
  clear hn2 HN0 hv3
  have p1a := HN.out.cell (wbx u1.heap.size 0 (m : Int)) (by simp) 0 _ rfl
  have p1b := HN.out.cell (wbx u1.heap.size 0 (m : Int)) (by simp) 1 _ rfl
  have p1c := HN.out.cell (fbx (u1.heap.size + 1) 0 0) (by simp) 0 _ rfl
  have p1d := HN.out.cell (fbx (u1.heap.size + 1) 0 0) (by simp) 1 _ rfl
  have p2a := HN.out.cell (wbx u2.heap.size 0 (-(m : Int))) (by simp) 0 _ rfl
  have p2b := HN.out.cell (wbx u2.heap.size 0 (-(m : Int))) (by simp) 1 _ rfl
  have p2c := HN.out.cell (fbx (u2.heap.size + 1) 0 0) (by simp) 0 _ rfl
  have p2d := HN.out.cell (fbx (u2.heap.size + 1) 0 0) (by simp) 1 _ rfl
  have p3a := HN.out.cell (wbx u3.heap.size 0 (m : Int)) (by simp) 0 _ rfl
  have p3b := HN.out.cell (wbx u3.heap.size 0 (m : Int)) (by simp) 1 _ rfl
  have p3c := HN.out.cell (fbx (u3.heap.size + 1) 0 0) (by simp) 0 _ rfl
  have p3d := HN.out.cell (fbx (u3.heap.size + 1) 0 0) (by simp) 1 _ rfl
  have HMa := Lib.hid HN.out.many
  rw [many_none] at HMa
  have hwr : wrap64 (-(m : Int)) = -(m : Int) := by have := HM.out; unfold wrap64; omega
  refine wp_region_grown v3 (Below.refl _ _) (by kernel_rfl) (by kernel_rfl) ?_
  repeat (go_big_quiet_step (first
    | (go_at_call 20; exact grown_call (fun w _ => Kit.int_any _ w))
    | (go_at_call 25; exact grown_call HMa.out)))
  refine wpQuiet_nil ?_
  rintro _ ⟨x, rfl⟩
  have HX := Lib.hid ((HB1.out.trans (HN.out.below.mono HB1.out.size)).trans (x.below.mono ((HB1.out.trans (HN.out.below.mono HB1.out.size)).size)))
  go_wp2_with fail
  go_ret
  exact ⟨rfl, HX.out⟩

set_option maxHeartbeats 8000000 in
theorem ints_nmin (m z : Nat) (n0 q : Int) (hd : decide (n0 < 0) = true) (hq : wrap64 (n0 + 1) = q) (hqm : wrap64 (-q) = (m : Int)) (x1 : Int) (len : Int) (w : World) (hS : Sys w) (hm : m < 9223372036854775808) (hz : Nt.pickZ x1 40 = (z : Int)) (hz2 : z ≤ 40) (hc : m = 2305843009213693952)
    (hI : ∀ S : ByteArray, S.data.toList = enc (numZ z m) → (S.size : Int) = len ∧ I3 S (0, 0) 0 15 (0, (-2305843009213693952)) (len + 1) 0 (0, 0) 0 15) (hlen : 0 ≤ len ∧ len ≤ 100) :
    Calls Tryz.prog 6 #[.int .i64 n0, .int .i64 x1] w fun e w' => e = .returned (.bool true) ∧ Below w.heap.size w w' := by
  have HL := Lib.hid (lives_any w hS)
  have HS0 := Lib.hid hS
  have HI := Lib.hid hI
  have HLen := Lib.hid hlen
  have HM := Lib.hid hm
  have HZ := Lib.hid hz2
  have HPk := Lib.hid (fun w => Nt.pick_any x1 40 w (by omega) (by omega))
  rw [hz] at HPk
  have hgt : decide ((2305843009213693951 : Int) < (m : Int)) = true := by simp; omega
  have hsm : ((m : Int) == 2305843009213693952) = true := by simp; omega
  clear hS hI hlen hm hz2 hc hz
  go_enter Tryz.func6, Tryz.ntmps6
  go_wp2_with fail
  refine HL.out.mono ?_
  rintro e w1 ⟨rfl, hb1⟩
  have HB1 := Lib.hid hb1
  have HS := Lib.hid (HS0.out.below hb1)
  clear hb1
  go_wp2_with fail
  refine (FStep.of (lim := 1) (by omega) (by omega) w1 HS.out.tabs).mono ?_
  rintro e w2 ⟨tp, rfl, hN⟩
  have HN := Lib.hid hN
  clear hN
  go_wp2_with fail
  refine (HPk.out _).mono ?_
  rintro e w' ⟨rfl, rfl⟩
  go_wp2_with fail
  refine (times_any ⟨#[48]⟩ z _ (by decide) (by have := HZ.out; omega)).mono ?_
  rintro e w' ⟨⟨R, rfl, hR⟩, rfl⟩
  have HR := Lib.hid hR
  clear hR
  go_wp2_with fail
  have hdg := digits_any m HM.out
  have hbt := numZ_bytes (n := m) HR.out
  obtain ⟨P, hP⟩ : ∃ P, strOf (enc (decZ m)) = P := ⟨_, rfl⟩
  rw [hP] at hdg hbt
  have hi := HI.out (R ++ P) hbt
  have hs0 : (R ++ P).size = R.size + P.size := by simp
  have hlen := HLen.out
  have hsz0 : R.size + P.size ≤ 100 := by omega
  have hn1 : ¬ 9223372036854775807 < R.size + P.size := by omega
  refine (hdg _).mono ?_
  clear hdg hbt hP
  rintro e w3 ⟨rfl, hb3⟩
  have hn := HN.out.later hb3
  clear HN
  have HN := Lib.hid hn
  clear hn hb3
  go_wp2_with fail
  obtain ⟨S, hS⟩ : ∃ S, R ++ P = S := ⟨_, rfl⟩
  rw [hS] at hi hs0 ⊢
  have hsz := hi.1
  have H3 := Lib.hid hi.2
  have hn2 : ¬ 9223372036854775807 < 1 + S.size := by omega
  have hn3 : ¬ 9223372036854775807 < 1 + S.size + 1 := by omega
  clear hs0 hsz0 hn1 hlen
  clear hS hi HR HI HPk
  refine (H3.out.r1 _ _ tp _ HS.out HN.out).mono ?_
  rintro e u1 ⟨rfl, hn⟩
  have hn2 := hn.two 0 0 15 0
  clear HN hn
  have HN0 := Lib.hid hn2
  clear hn2
  go_wp2_with fail
  obtain ⟨v1, hv1⟩ : ∃ v, (u1.alloc (wob 0 0)).alloc (fob 15 0) = v := ⟨_, rfl⟩
  have hn2 := HN0.out
  rw [hv1] at hn2
  have HN := Lib.hid hn2
  rw [hv1]
  clear hn2 HN0 hv1
  refine (H3.out.r2 _ _ tp _ HS.out HN.out).mono ?_
  rintro e u2 ⟨rfl, hn⟩
  have hn2 := hn.two 0 (-2305843009213693952) 0 0
  clear HN hn
  have HN0 := Lib.hid hn2
  clear hn2
  go_wp2_with fail
  obtain ⟨v2, hv2⟩ : ∃ v, (u2.alloc (wob 0 (-2305843009213693952))).alloc (fob 0 0) = v := ⟨_, rfl⟩
  have hn2 := HN0.out
  rw [hv2] at hn2
  have HN := Lib.hid hn2
  rw [hv2]
  clear hn2 HN0 hv2
  refine (H3.out.r3 _ _ tp _ HS.out HN.out).mono ?_
  rintro e u3 ⟨rfl, hn⟩
  have hn2 := hn.two 0 0 15 0
  clear HN hn
  have HN0 := Lib.hid hn2
  clear hn2
  go_wp2_with fail
  obtain ⟨v3, hv3⟩ : ∃ v, (u3.alloc (wob 0 0)).alloc (fob 15 0) = v := ⟨_, rfl⟩
  have hn2 := HN0.out
  rw [hv3] at hn2
  have HN := Lib.hid hn2
  rw [hv3]
  clear hn2 HN0 hv3
  have p1a := HN.out.cell (wbx u1.heap.size 0 0) (by simp) 0 _ rfl
  have p1b := HN.out.cell (wbx u1.heap.size 0 0) (by simp) 1 _ rfl
  have p1c := HN.out.cell (fbx (u1.heap.size + 1) 15 0) (by simp) 0 _ rfl
  have p1d := HN.out.cell (fbx (u1.heap.size + 1) 15 0) (by simp) 1 _ rfl
  have p2a := HN.out.cell (wbx u2.heap.size 0 (-2305843009213693952)) (by simp) 0 _ rfl
  have p2b := HN.out.cell (wbx u2.heap.size 0 (-2305843009213693952)) (by simp) 1 _ rfl
  have p2c := HN.out.cell (fbx (u2.heap.size + 1) 0 0) (by simp) 0 _ rfl
  have p2d := HN.out.cell (fbx (u2.heap.size + 1) 0 0) (by simp) 1 _ rfl
  have p3a := HN.out.cell (wbx u3.heap.size 0 0) (by simp) 0 _ rfl
  have p3b := HN.out.cell (wbx u3.heap.size 0 0) (by simp) 1 _ rfl
  have p3c := HN.out.cell (fbx (u3.heap.size + 1) 15 0) (by simp) 0 _ rfl
  have p3d := HN.out.cell (fbx (u3.heap.size + 1) 15 0) (by simp) 1 _ rfl
  have HMa := Lib.hid HN.out.many
  rw [many_none] at HMa
  have hwr : wrap64 (-(m : Int)) = -(m : Int) := by have := HM.out; unfold wrap64; omega
  refine wp_region_grown v3 (Below.refl _ _) (by kernel_rfl) (by kernel_rfl) ?_
  repeat (go_big_quiet_step (first
    | (go_at_call 20; exact grown_call (fun w _ => Kit.int_any _ w))
    | (go_at_call 25; exact grown_call HMa.out)))
  refine wpQuiet_nil ?_
  rintro _ ⟨x, rfl⟩
  have HX := Lib.hid ((HB1.out.trans (HN.out.below.mono HB1.out.size)).trans (x.below.mono ((HB1.out.trans (HN.out.below.mono HB1.out.size)).size)))
  go_wp2_with fail
  go_ret
  exact ⟨rfl, HX.out⟩

set_option maxHeartbeats 8000000 in
theorem ints_nout (m z : Nat) (n0 q : Int) (hd : decide (n0 < 0) = true) (hq : wrap64 (n0 + 1) = q) (hqm : wrap64 (-q) = (m : Int)) (x1 : Int) (len : Int) (w : World) (hS : Sys w) (hm : m < 9223372036854775808) (hz : Nt.pickZ x1 40 = (z : Int)) (hz2 : z ≤ 40) (hc : 2305843009213693952 < (m : Int))
    (hI : ∀ S : ByteArray, S.data.toList = enc (numZ z m) → (S.size : Int) = len ∧ I3 S (0, 0) 0 15 (0, 0) 0 15 (0, 0) 0 15) (hlen : 0 ≤ len ∧ len ≤ 100) :
    Calls Tryz.prog 6 #[.int .i64 n0, .int .i64 x1] w fun e w' => e = .returned (.bool true) ∧ Below w.heap.size w w' := by
  have HL := Lib.hid (lives_any w hS)
  have HS0 := Lib.hid hS
  have HI := Lib.hid hI
  have HLen := Lib.hid hlen
  have HM := Lib.hid hm
  have HZ := Lib.hid hz2
  have HPk := Lib.hid (fun w => Nt.pick_any x1 40 w (by omega) (by omega))
  rw [hz] at HPk
  have hgt : decide ((2305843009213693951 : Int) < (m : Int)) = true := by simp; omega
  have hsm : ((m : Int) == 2305843009213693952) = false := by simp; omega
  clear hS hI hlen hm hz2 hc hz
  go_enter Tryz.func6, Tryz.ntmps6
  go_wp2_with fail
  refine HL.out.mono ?_
  rintro e w1 ⟨rfl, hb1⟩
  have HB1 := Lib.hid hb1
  have HS := Lib.hid (HS0.out.below hb1)
  clear hb1
  go_wp2_with fail
  refine (FStep.of (lim := 1) (by omega) (by omega) w1 HS.out.tabs).mono ?_
  rintro e w2 ⟨tp, rfl, hN⟩
  have HN := Lib.hid hN
  clear hN
  go_wp2_with fail
  refine (HPk.out _).mono ?_
  rintro e w' ⟨rfl, rfl⟩
  go_wp2_with fail
  refine (times_any ⟨#[48]⟩ z _ (by decide) (by have := HZ.out; omega)).mono ?_
  rintro e w' ⟨⟨R, rfl, hR⟩, rfl⟩
  have HR := Lib.hid hR
  clear hR
  go_wp2_with fail
  have hdg := digits_any m HM.out
  have hbt := numZ_bytes (n := m) HR.out
  obtain ⟨P, hP⟩ : ∃ P, strOf (enc (decZ m)) = P := ⟨_, rfl⟩
  rw [hP] at hdg hbt
  have hi := HI.out (R ++ P) hbt
  have hs0 : (R ++ P).size = R.size + P.size := by simp
  have hlen := HLen.out
  have hsz0 : R.size + P.size ≤ 100 := by omega
  have hn1 : ¬ 9223372036854775807 < R.size + P.size := by omega
  refine (hdg _).mono ?_
  clear hdg hbt hP
  rintro e w3 ⟨rfl, hb3⟩
  have hn := HN.out.later hb3
  clear HN
  have HN := Lib.hid hn
  clear hn hb3
  go_wp2_with fail
  obtain ⟨S, hS⟩ : ∃ S, R ++ P = S := ⟨_, rfl⟩
  rw [hS] at hi hs0 ⊢
  have hsz := hi.1
  have H3 := Lib.hid hi.2
  have hn2 : ¬ 9223372036854775807 < 1 + S.size := by omega
  have hn3 : ¬ 9223372036854775807 < 1 + S.size + 1 := by omega
  clear hs0 hsz0 hn1 hlen
  clear hS hi HR HI HPk
  refine (H3.out.r1 _ _ tp _ HS.out HN.out).mono ?_
  rintro e u1 ⟨rfl, hn⟩
  have hn2 := hn.two 0 0 15 0
  clear HN hn
  have HN0 := Lib.hid hn2
  clear hn2
  go_wp2_with fail
  obtain ⟨v1, hv1⟩ : ∃ v, (u1.alloc (wob 0 0)).alloc (fob 15 0) = v := ⟨_, rfl⟩
  have hn2 := HN0.out
  rw [hv1] at hn2
  have HN := Lib.hid hn2
  rw [hv1]
  clear hn2 HN0 hv1
  refine (H3.out.r2 _ _ tp _ HS.out HN.out).mono ?_
  rintro e u2 ⟨rfl, hn⟩
  have hn2 := hn.two 0 0 15 0
  clear HN hn
  have HN0 := Lib.hid hn2
  clear hn2
  go_wp2_with fail
  obtain ⟨v2, hv2⟩ : ∃ v, (u2.alloc (wob 0 0)).alloc (fob 15 0) = v := ⟨_, rfl⟩
  have hn2 := HN0.out
  rw [hv2] at hn2
  have HN := Lib.hid hn2
  rw [hv2]
  clear hn2 HN0 hv2
  refine (H3.out.r3 _ _ tp _ HS.out HN.out).mono ?_
  rintro e u3 ⟨rfl, hn⟩
  have hn2 := hn.two 0 0 15 0
  clear HN hn
  have HN0 := Lib.hid hn2
  clear hn2
  go_wp2_with fail
  obtain ⟨v3, hv3⟩ : ∃ v, (u3.alloc (wob 0 0)).alloc (fob 15 0) = v := ⟨_, rfl⟩
  have hn2 := HN0.out
  rw [hv3] at hn2
  have HN := Lib.hid hn2
  rw [hv3]
  clear hn2 HN0 hv3
  have p1a := HN.out.cell (wbx u1.heap.size 0 0) (by simp) 0 _ rfl
  have p1b := HN.out.cell (wbx u1.heap.size 0 0) (by simp) 1 _ rfl
  have p1c := HN.out.cell (fbx (u1.heap.size + 1) 15 0) (by simp) 0 _ rfl
  have p1d := HN.out.cell (fbx (u1.heap.size + 1) 15 0) (by simp) 1 _ rfl
  have p2a := HN.out.cell (wbx u2.heap.size 0 0) (by simp) 0 _ rfl
  have p2b := HN.out.cell (wbx u2.heap.size 0 0) (by simp) 1 _ rfl
  have p2c := HN.out.cell (fbx (u2.heap.size + 1) 15 0) (by simp) 0 _ rfl
  have p2d := HN.out.cell (fbx (u2.heap.size + 1) 15 0) (by simp) 1 _ rfl
  have p3a := HN.out.cell (wbx u3.heap.size 0 0) (by simp) 0 _ rfl
  have p3b := HN.out.cell (wbx u3.heap.size 0 0) (by simp) 1 _ rfl
  have p3c := HN.out.cell (fbx (u3.heap.size + 1) 15 0) (by simp) 0 _ rfl
  have p3d := HN.out.cell (fbx (u3.heap.size + 1) 15 0) (by simp) 1 _ rfl
  have HMa := Lib.hid HN.out.many
  rw [many_none] at HMa
  have hwr : wrap64 (-(m : Int)) = -(m : Int) := by have := HM.out; unfold wrap64; omega
  refine wp_region_grown v3 (Below.refl _ _) (by kernel_rfl) (by kernel_rfl) ?_
  repeat (go_big_quiet_step (first
    | (go_at_call 20; exact grown_call (fun w _ => Kit.int_any _ w))
    | (go_at_call 25; exact grown_call HMa.out)))
  refine wpQuiet_nil ?_
  rintro _ ⟨x, rfl⟩
  have HX := Lib.hid ((HB1.out.trans (HN.out.below.mono HB1.out.size)).trans (x.below.mono ((HB1.out.trans (HN.out.below.mono HB1.out.size)).size)))
  go_wp2_with fail
  go_ret
  exact ⟨rfl, HX.out⟩
end Go.Proofs.YtlibdhnlmekmhaaGreatDoor.Rd
end
