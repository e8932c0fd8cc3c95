/- The contract of the statements' example. -/
import Derived.Test.YtkbdonecbepfnaaVsDeepMath
namespace Go.Proofs.Ytkbdonecbepfnaa.Vs
set_option maxRecDepth 100000
open Go.RowKit
open Go.Proofs.Ytkbdonecbepfnaa.Own

theorem tS_set (n : Int) (c : Option Cl) (l : List Bd) (d : Cl) (hn : 2 ≤ n ∧ n < 16384) : setO (tS n c l) n d = (0, tS n (some d) l) := by
  unfold setO
  rw [if_pos (tS_change n c l hn), tS_home, tS_put]
theorem sN_good : Good sN := by
  intro b hb
  rw [sN_binds] at hb
  simp at hb
def v70a : Vs := tS 70 (some ((0, 1), true)) []
def v70b : Vs := tS 70 (some ((0, 2), true)) [⟨((0, 1), true), 70, 0⟩]
theorem live1 : setO sN 70 ((0, 1), true) = (0, v70a) := by rw [← tS_same 70 (by omega), tS_set 70 _ _ _ (by omega)]; rfl
theorem live2 : bindO v70a 70 (0, 2) = (0, v70b) := by
  unfold bindO v70a
  rw [if_pos (tS_change 70 _ _ (by omega)), if_neg (by show ¬ 2000 ≤ 0; omega), tS_home, tS_content]
  refine Prod.ext rfl ?_
  show putC (tS 70 _ [_]) 70 0 _ = _
  rw [tS_put]
  rfl
theorem live3 : getO v70b 70 = ((0, 2), true) := by unfold v70b; rw [tS_get]; rfl
theorem live4 : unbindO v70b 0 = (0, v70a) := by
  unfold unbindO v70b
  rw [if_pos (by show (0 : Int) ≤ 0 ∧ (0 : Int) ≤ 1; omega)]
  refine Prod.ext rfl ?_
  have e : undoL (tS 70 (some ((0, 2), true)) [⟨((0, 1), true), 70, 0⟩]) ((tS 70 (some ((0, 2), true)) [⟨((0, 1), true), 70, 0⟩]).binds.drop (Int.toNat 0)).reverse = tS 70 (some ((0, 1), true)) [⟨((0, 1), true), 70, 0⟩] := by
    show undoO (tS 70 (some ((0, 2), true)) [⟨((0, 1), true), 70, 0⟩]) ⟨((0, 1), true), 70, 0⟩ = _
    unfold undoO
    rw [if_pos (by simp [tS]), tS_put]
  rw [e]
  rfl
theorem live5 : getO v70a 70 = ((0, 1), true) := by unfold v70a; rw [tS_get]; rfl
theorem live_good : Good v70b := by
  intro b hb _
  simp only [v70b, tS, List.mem_singleton] at hb
  subst hb
  simp [v70b, tS]

theorem VsIs.free {w : World} {base vp b : Nat} {s : Vs} {lab : Nat → Option VLab} {P : VParts} (h : VsIs w base vp s lab P) (hb : w.heap.size ≤ b) : ¬ VOf lab b := fun e => e.1 (h.fresh hb)
theorem VsIs.kept {w w' : World} {base vp b : Nat} {s s' : Vs} {lab lab' : Nat → Option VLab} {P P' : VParts} {cs : Array Value} {t : TypeId} (_h : VsIs w base vp s lab P) (hA : VAfter w w' lab lab') (hb : Blk w b cs t) (hl : ¬ VOf lab b) (_h' : VsIs w' base vp s' lab' P') : Blk w' b cs t :=
  hb.keeps hA.keeps hl
theorem VAfter.free {w w' : World} {lab lab' : Nat → Option VLab} {b : Nat} (hA : VAfter w w' lab lab') (hlt : b < w.heap.size) (hl : ¬ VOf lab b) : ¬ VOf lab' b := fun h => by
  rcases hA.grow b h with e | e
  · exact hl e
  · omega

set_option maxHeartbeats 8000000 in
theorem lives_any (w : World) : Calls Try.prog 7 #[] w fun e w' => e = .returned (.bool true) ∧ Below w.heap.size w w' := by
  have HN := Lib.hid (new_any w)
  go_enter Try.func7, Try.ntmps7
  go_wp2_with fail
  refine HN.out.mono ?_
  rintro e w1 ⟨rfl, hb1, lab1, P1, hI1⟩
  have HI1 := Lib.hid hI1
  have HB1 := Lib.hid hb1
  clear hI1 hb1
  obtain ⟨vp, hvp⟩ : ∃ vp, w.heap.size + 1 + 1 = vp := ⟨_, rfl⟩
  rw [hvp] at HI1
  simp only [hvp]
  have HVp := Lib.hid hvp
  clear hvp
  go_wp2_with fail
  refine (int1_any 1 _).mono ?_
  rintro e w2 ⟨rfl, hb2⟩
  have HB2 := Lib.hid (HB1.out.trans (hb2.mono HB1.out.size))
  have HI2 := Lib.hid (HI1.out.below hb2)
  have hs := set_any HI2.out HB2.out.size 70 (0, 1) (by unfold Wf; omega)
  rw [live1] at hs
  have HS := Lib.hid hs
  clear hb2 hs
  go_wp2_with fail
  refine HS.out.mono ?_
  rintro e w3 ⟨rfl, lab3, P3, hI3, hA3⟩
  have HB3 := Lib.hid (HB2.out.trans (VAfter.bel HI2.out HB2.out.size hA3))
  have HI3 := Lib.hid hI3
  clear hI3 hA3
  go_wp2_with fail
  refine (int1_any 2 _).mono ?_
  rintro e w4 ⟨rfl, hb4⟩
  have HB4 := Lib.hid (HB3.out.trans (hb4.mono HB3.out.size))
  have HI4 := Lib.hid (HI3.out.below hb4)
  have hs := bind_any HI4.out HB4.out.size 70 (0, 2) (by unfold Wf; omega)
  rw [live2] at hs
  have HS4 := Lib.hid hs
  clear hb4 hs
  go_wp2_with fail
  refine HS4.out.mono ?_
  rintro e w5 ⟨rfl, lab5, P5, hI5, hA5⟩
  have HB5 := Lib.hid (HB4.out.trans (VAfter.bel HI4.out HB4.out.size hA5))
  have hs := get_any hI5 70 (by unfold Wf; omega)
  rw [live3] at hs
  have HS5 := Lib.hid hs
  have HI5 := Lib.hid hI5
  clear hI5 hA5 hs
  go_wp2_with fail
  refine HS5.out.mono ?_
  rintro e w6 ⟨rfl, hb6⟩
  have hB7 := (HB5.out.trans (hb6.mono HB5.out.size)).alloc (HB5.out.trans (hb6.mono HB5.out.size)).size (wbox (0, 2))
  have hI6 := HI5.out.below hb6
  have hI7 := hI6.alloc (wbox (0, 2))
  have l6 := hI6.free (Nat.le_refl _)
  have hs := unbind_any hI7 live_good 0
  rw [live4] at hs
  have HS7 := Lib.hid hs
  have HI7 := Lib.hid hI7
  have HB7 := Lib.hid hB7
  have HL6 := Lib.hid l6
  have HR6 := Lib.hid (Blk.new w6 #[.int .i64 0, .int .i64 2] 29)
  clear hb6 hI6 hI7 hB7 l6 hs
  go_wp2_with fail
  refine HS7.out.mono ?_
  rintro e w8 ⟨rfl, lab8, P8, hI8, hA8⟩
  have HB8 := Lib.hid (HB7.out.trans (VAfter.bel HI7.out HB7.out.size hA8))
  have hs := get_any hI8 70 (by unfold Wf; omega)
  rw [live5] at hs
  have HS8 := Lib.hid hs
  have HR8 := Lib.hid (HI7.out.kept hA8 HR6.out HL6.out hI8)
  clear hI8 hA8 hs
  go_wp2_with fail
  refine HS8.out.mono ?_
  rintro e w9 ⟨rfl, hb9⟩
  have hB9 := (HB8.out.trans (hb9.mono HB8.out.size)).alloc (HB8.out.trans (hb9.mono HB8.out.size)).size (wbox (0, 1))
  have r8 := (HR8.out.below hb9).alloc (wbox (0, 1))
  have s8 := Blk.new w9 #[.int .i64 0, .int .i64 1] 29
  have q1 := fun x : Grown (w9.alloc (.cells #[.int .i64 0, .int .i64 1] 29)) => (r8.below x.below).cell 0 _ rfl
  have q2 := fun x : Grown (w9.alloc (.cells #[.int .i64 0, .int .i64 1] 29)) => (r8.below x.below).cell 1 _ rfl
  have q3 := fun x : Grown (w9.alloc (.cells #[.int .i64 0, .int .i64 1] 29)) => (s8.below x.below).cell 0 _ rfl
  have q4 := fun x : Grown (w9.alloc (.cells #[.int .i64 0, .int .i64 1] 29)) => (s8.below x.below).cell 1 _ rfl
  have HB9 := Lib.hid hB9
  clear hb9 hB9 r8 s8
  go_wp2_with fail
  refine wp_region_grown (w9.alloc (.cells #[.int .i64 0, .int .i64 1] 29)) (Below.refl _ _) (by kernel_rfl) (by kernel_rfl) ?_
  repeat (go_big_quiet_step ((go_at_call 33; exact grown_call (fun w _ => int1_any _ w))))
  refine wpQuiet_nil ?_
  rintro _ ⟨x, rfl⟩
  have HX := Lib.hid (HB9.out.trans (x.below.mono HB9.out.size))
  go_wp2_with fail
  go_ret
  exact ⟨rfl, HX.out⟩
end Go.Proofs.Ytkbdonecbepfnaa.Vs
