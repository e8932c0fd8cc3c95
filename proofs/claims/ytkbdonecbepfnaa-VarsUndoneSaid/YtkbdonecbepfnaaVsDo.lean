/- The law's 'do': what an act does. (Printed by gen_do.py.) -/
import Derived.Test.YtkbdonecbepfnaaVsUnbind3
import Derived.Test.YtkbdonecbepfnaaVsCalls3
import Derived.Test.YtkbdonecbepfnaaVsKill
import Derived.Test.YtkbdonecbepfnaaVsNew
import Derived.Test.YtkbdonecbepfnaaVsKit
namespace Go.Proofs.Ytkbdonecbepfnaa.Vs
open Go.RowKit Go.Maps Go.Lib
open Go.Proofs.Ytkbdonecbepfnaa.Own
set_option maxRecDepth 100000

/-- What an act answers, and the variables behind it. -/
noncomputable def actO (s : Vs) (p n k : Int) (x : Wd) : Int × Vs :=
  if p = 0 then setO s n (x, true)
  else if p = 1 then setO s n ((0, 0), false)
  else if p = 2 then markO s n 1
  else if p = 3 then markO s n 3
  else if p = 4 then bindO s n x
  else if p = 5 then bindO s n x
  else if p = 6 then unbindO s k
  else if p = 7 then setScopeO s k
  else if p = 8 then makeLocalO s n
  else if p = 9 then killO s n
  else if p = 10 then setLocalO s n k x
  else if p = 11 then setDefaultO s n x
  else if p = 12 then dropO s k
  else (0, s)
abbrev actv (kd n k : Int) (x : Wd) : Value := .agg #[.int .i64 kd, .int .i64 n, .int .i64 k, .int .i64 x.1, .int .i64 x.2]
abbrev actc (kd n k : Int) (x : Wd) : Array Value := #[.int .i64 kd, .int .i64 n, .int .i64 k, .int .i64 x.1, .int .i64 x.2]
set_option maxHeartbeats 1000000 in
theorem do_0 {w : World} {base vp : Nat} {s : Vs} {lab : Nat → Option VLab} {P : VParts} (h : VsIs w base vp s lab P) (hb : base ≤ w.heap.size) (_hg : Good s) (kd n k : Int) (x : Wd) (_hn : Wf n) (hp : pickZ kd 14 = 0) :
    Calls Try.prog 9 #[vptr vp, actv kd n k x] w fun e w' => e = .returned (.int .i64 (setO s n (x, true)).1) ∧ VsOk w w' base vp (setO s n (x, true)).2 lab := by
  have hB : Below w.heap.size w (w.alloc (.cells (actc kd n k x) 31)) := (Below.refl _ _).alloc (Nat.le_refl _) _
  have h1 := h.below hB
  have HH := Lib.hid (show base ≤ (w.alloc (.cells (actc kd n k x) 31)).heap.size from by simp; omega)
  have hpk := fun W => pick_any kd 14 W (by omega) (by omega)
  rw [hp] at hpk
  have HP := Lib.hid hpk
  have HA := Lib.hid (set_any h1 HH.out n x _hn)
  have HBw := Lib.hid hB
  clear h1 hb h HH hpk hB hp _hg _hn
  go_enter Try.func9, Try.ntmps9
  go_wp2_with fail
  refine (HP.out _).mono ?_
  rintro e w' ⟨rfl, rfl⟩
  go_wp2_with fail
  refine HA.out.mono ?_
  rintro e w' ⟨rfl, hok⟩
  have HF := Lib.hid (VsOk.first HBw.out hok)
  clear hok
  go_wp2_with fail
  go_ret
  exact ⟨rfl, HF.out⟩
set_option maxHeartbeats 1000000 in
theorem do_1 {w : World} {base vp : Nat} {s : Vs} {lab : Nat → Option VLab} {P : VParts} (h : VsIs w base vp s lab P) (hb : base ≤ w.heap.size) (_hg : Good s) (kd n k : Int) (x : Wd) (_hn : Wf n) (hp : pickZ kd 14 = 1) :
    Calls Try.prog 9 #[vptr vp, actv kd n k x] w fun e w' => e = .returned (.int .i64 (setO s n ((0, 0), false)).1) ∧ VsOk w w' base vp (setO s n ((0, 0), false)).2 lab := by
  have hB : Below w.heap.size w (w.alloc (.cells (actc kd n k x) 31)) := (Below.refl _ _).alloc (Nat.le_refl _) _
  have h1 := h.below hB
  have HH := Lib.hid (show base ≤ (w.alloc (.cells (actc kd n k x) 31)).heap.size from by simp; omega)
  have hpk := fun W => pick_any kd 14 W (by omega) (by omega)
  rw [hp] at hpk
  have HP := Lib.hid hpk
  have HA := Lib.hid (clear_any h1 HH.out n _hn)
  have HBw := Lib.hid hB
  clear h1 hb h HH hpk hB hp _hg _hn
  go_enter Try.func9, Try.ntmps9
  go_wp2_with fail
  refine (HP.out _).mono ?_
  rintro e w' ⟨rfl, rfl⟩
  go_wp2_with fail
  refine HA.out.mono ?_
  rintro e w' ⟨rfl, hok⟩
  have HF := Lib.hid (VsOk.first HBw.out hok)
  clear hok
  go_wp2_with fail
  go_ret
  exact ⟨rfl, HF.out⟩
set_option maxHeartbeats 1000000 in
theorem do_2 {w : World} {base vp : Nat} {s : Vs} {lab : Nat → Option VLab} {P : VParts} (h : VsIs w base vp s lab P) (hb : base ≤ w.heap.size) (_hg : Good s) (kd n k : Int) (x : Wd) (_hn : Wf n) (hp : pickZ kd 14 = 2) :
    Calls Try.prog 9 #[vptr vp, actv kd n k x] w fun e w' => e = .returned (.int .i64 (markO s n 1).1) ∧ VsOk w w' base vp (markO s n 1).2 lab := by
  have hB : Below w.heap.size w (w.alloc (.cells (actc kd n k x) 31)) := (Below.refl _ _).alloc (Nat.le_refl _) _
  have h1 := h.below hB
  have HH := Lib.hid (show base ≤ (w.alloc (.cells (actc kd n k x) 31)).heap.size from by simp; omega)
  have hpk := fun W => pick_any kd 14 W (by omega) (by omega)
  rw [hp] at hpk
  have HP := Lib.hid hpk
  have HA := Lib.hid (markSpecial_any h1 n _hn)
  have HBw := Lib.hid hB
  clear h1 hb h HH hpk hB hp _hg _hn
  go_enter Try.func9, Try.ntmps9
  go_wp2_with fail
  refine (HP.out _).mono ?_
  rintro e w' ⟨rfl, rfl⟩
  go_wp2_with fail
  refine HA.out.mono ?_
  rintro e w' ⟨rfl, hok⟩
  have HF := Lib.hid (VsOk.first HBw.out hok)
  clear hok
  go_wp2_with fail
  go_ret
  exact ⟨rfl, HF.out⟩
set_option maxHeartbeats 1000000 in
theorem do_3 {w : World} {base vp : Nat} {s : Vs} {lab : Nat → Option VLab} {P : VParts} (h : VsIs w base vp s lab P) (hb : base ≤ w.heap.size) (_hg : Good s) (kd n k : Int) (x : Wd) (_hn : Wf n) (hp : pickZ kd 14 = 3) :
    Calls Try.prog 9 #[vptr vp, actv kd n k x] w fun e w' => e = .returned (.int .i64 (markO s n 3).1) ∧ VsOk w w' base vp (markO s n 3).2 lab := by
  have hB : Below w.heap.size w (w.alloc (.cells (actc kd n k x) 31)) := (Below.refl _ _).alloc (Nat.le_refl _) _
  have h1 := h.below hB
  have HH := Lib.hid (show base ≤ (w.alloc (.cells (actc kd n k x) 31)).heap.size from by simp; omega)
  have hpk := fun W => pick_any kd 14 W (by omega) (by omega)
  rw [hp] at hpk
  have HP := Lib.hid hpk
  have HA := Lib.hid (markConst_any h1 n _hn)
  have HBw := Lib.hid hB
  clear h1 hb h HH hpk hB hp _hg _hn
  go_enter Try.func9, Try.ntmps9
  go_wp2_with fail
  refine (HP.out _).mono ?_
  rintro e w' ⟨rfl, rfl⟩
  go_wp2_with fail
  refine HA.out.mono ?_
  rintro e w' ⟨rfl, hok⟩
  have HF := Lib.hid (VsOk.first HBw.out hok)
  clear hok
  go_wp2_with fail
  go_ret
  exact ⟨rfl, HF.out⟩
set_option maxHeartbeats 1000000 in
theorem do_4 {w : World} {base vp : Nat} {s : Vs} {lab : Nat → Option VLab} {P : VParts} (h : VsIs w base vp s lab P) (hb : base ≤ w.heap.size) (_hg : Good s) (kd n k : Int) (x : Wd) (_hn : Wf n) (hp : pickZ kd 14 = 4) :
    Calls Try.prog 9 #[vptr vp, actv kd n k x] w fun e w' => e = .returned (.int .i64 (bindO s n x).1) ∧ VsOk w w' base vp (bindO s n x).2 lab := by
  have hB : Below w.heap.size w (w.alloc (.cells (actc kd n k x) 31)) := (Below.refl _ _).alloc (Nat.le_refl _) _
  have h1 := h.below hB
  have HH := Lib.hid (show base ≤ (w.alloc (.cells (actc kd n k x) 31)).heap.size from by simp; omega)
  have hpk := fun W => pick_any kd 14 W (by omega) (by omega)
  rw [hp] at hpk
  have HP := Lib.hid hpk
  have HA := Lib.hid (bind_any h1 HH.out n x _hn)
  have HBw := Lib.hid hB
  clear h1 hb h HH hpk hB hp _hg _hn
  go_enter Try.func9, Try.ntmps9
  go_wp2_with fail
  refine (HP.out _).mono ?_
  rintro e w' ⟨rfl, rfl⟩
  go_wp2_with fail
  refine HA.out.mono ?_
  rintro e w' ⟨rfl, hok⟩
  have HF := Lib.hid (VsOk.first HBw.out hok)
  clear hok
  go_wp2_with fail
  go_ret
  exact ⟨rfl, HF.out⟩
set_option maxHeartbeats 1000000 in
theorem do_5 {w : World} {base vp : Nat} {s : Vs} {lab : Nat → Option VLab} {P : VParts} (h : VsIs w base vp s lab P) (hb : base ≤ w.heap.size) (_hg : Good s) (kd n k : Int) (x : Wd) (_hn : Wf n) (hp : pickZ kd 14 = 5) :
    Calls Try.prog 9 #[vptr vp, actv kd n k x] w fun e w' => e = .returned (.int .i64 (bindO s n x).1) ∧ VsOk w w' base vp (bindO s n x).2 lab := by
  have hB : Below w.heap.size w (w.alloc (.cells (actc kd n k x) 31)) := (Below.refl _ _).alloc (Nat.le_refl _) _
  have h1 := h.below hB
  have HH := Lib.hid (show base ≤ (w.alloc (.cells (actc kd n k x) 31)).heap.size from by simp; omega)
  have hpk := fun W => pick_any kd 14 W (by omega) (by omega)
  rw [hp] at hpk
  have HP := Lib.hid hpk
  have HA := Lib.hid (bind_any h1 HH.out n x _hn)
  have HBw := Lib.hid hB
  clear h1 hb h HH hpk hB hp _hg _hn
  go_enter Try.func9, Try.ntmps9
  go_wp2_with fail
  refine (HP.out _).mono ?_
  rintro e w' ⟨rfl, rfl⟩
  go_wp2_with fail
  refine HA.out.mono ?_
  rintro e w' ⟨rfl, hok⟩
  have HF := Lib.hid (VsOk.first HBw.out hok)
  clear hok
  go_wp2_with fail
  go_ret
  exact ⟨rfl, HF.out⟩
set_option maxHeartbeats 1000000 in
theorem do_6 {w : World} {base vp : Nat} {s : Vs} {lab : Nat → Option VLab} {P : VParts} (h : VsIs w base vp s lab P) (hb : base ≤ w.heap.size) (_hg : Good s) (kd n k : Int) (x : Wd) (_hn : Wf n) (hp : pickZ kd 14 = 6) :
    Calls Try.prog 9 #[vptr vp, actv kd n k x] w fun e w' => e = .returned (.int .i64 (unbindO s k).1) ∧ VsOk w w' base vp (unbindO s k).2 lab := by
  have hB : Below w.heap.size w (w.alloc (.cells (actc kd n k x) 31)) := (Below.refl _ _).alloc (Nat.le_refl _) _
  have h1 := h.below hB
  have HH := Lib.hid (show base ≤ (w.alloc (.cells (actc kd n k x) 31)).heap.size from by simp; omega)
  have hpk := fun W => pick_any kd 14 W (by omega) (by omega)
  rw [hp] at hpk
  have HP := Lib.hid hpk
  have HA := Lib.hid (unbind_any h1 _hg k)
  have HBw := Lib.hid hB
  clear h1 hb h HH hpk hB hp _hg _hn
  go_enter Try.func9, Try.ntmps9
  go_wp2_with fail
  refine (HP.out _).mono ?_
  rintro e w' ⟨rfl, rfl⟩
  go_wp2_with fail
  refine HA.out.mono ?_
  rintro e w' ⟨rfl, hok⟩
  have HF := Lib.hid (VsOk.first HBw.out hok)
  clear hok
  go_wp2_with fail
  go_ret
  exact ⟨rfl, HF.out⟩
set_option maxHeartbeats 1000000 in
theorem do_7 {w : World} {base vp : Nat} {s : Vs} {lab : Nat → Option VLab} {P : VParts} (h : VsIs w base vp s lab P) (hb : base ≤ w.heap.size) (_hg : Good s) (kd n k : Int) (x : Wd) (_hn : Wf n) (hp : pickZ kd 14 = 7) :
    Calls Try.prog 9 #[vptr vp, actv kd n k x] w fun e w' => e = .returned (.int .i64 (setScopeO s k).1) ∧ VsOk w w' base vp (setScopeO s k).2 lab := by
  have hB : Below w.heap.size w (w.alloc (.cells (actc kd n k x) 31)) := (Below.refl _ _).alloc (Nat.le_refl _) _
  have h1 := h.below hB
  have HH := Lib.hid (show base ≤ (w.alloc (.cells (actc kd n k x) 31)).heap.size from by simp; omega)
  have hpk := fun W => pick_any kd 14 W (by omega) (by omega)
  rw [hp] at hpk
  have HP := Lib.hid hpk
  have HA := Lib.hid (setScope_any h1 k)
  have HBw := Lib.hid hB
  clear h1 hb h HH hpk hB hp _hg _hn
  go_enter Try.func9, Try.ntmps9
  go_wp2_with fail
  refine (HP.out _).mono ?_
  rintro e w' ⟨rfl, rfl⟩
  go_wp2_with fail
  refine HA.out.mono ?_
  rintro e w' ⟨rfl, hok⟩
  have HF := Lib.hid (VsOk.first HBw.out hok)
  clear hok
  go_wp2_with fail
  go_ret
  exact ⟨rfl, HF.out⟩
set_option maxHeartbeats 1000000 in
theorem do_8 {w : World} {base vp : Nat} {s : Vs} {lab : Nat → Option VLab} {P : VParts} (h : VsIs w base vp s lab P) (hb : base ≤ w.heap.size) (_hg : Good s) (kd n k : Int) (x : Wd) (_hn : Wf n) (hp : pickZ kd 14 = 8) :
    Calls Try.prog 9 #[vptr vp, actv kd n k x] w fun e w' => e = .returned (.int .i64 (makeLocalO s n).1) ∧ VsOk w w' base vp (makeLocalO s n).2 lab := by
  have hB : Below w.heap.size w (w.alloc (.cells (actc kd n k x) 31)) := (Below.refl _ _).alloc (Nat.le_refl _) _
  have h1 := h.below hB
  have HH := Lib.hid (show base ≤ (w.alloc (.cells (actc kd n k x) 31)).heap.size from by simp; omega)
  have hpk := fun W => pick_any kd 14 W (by omega) (by omega)
  rw [hp] at hpk
  have HP := Lib.hid hpk
  have HA := Lib.hid (makeLocal_any h1 HH.out n _hn)
  have HBw := Lib.hid hB
  clear h1 hb h HH hpk hB hp _hg _hn
  go_enter Try.func9, Try.ntmps9
  go_wp2_with fail
  refine (HP.out _).mono ?_
  rintro e w' ⟨rfl, rfl⟩
  go_wp2_with fail
  refine HA.out.mono ?_
  rintro e w' ⟨rfl, hok⟩
  have HF := Lib.hid (VsOk.first HBw.out hok)
  clear hok
  go_wp2_with fail
  go_ret
  exact ⟨rfl, HF.out⟩
set_option maxHeartbeats 1000000 in
theorem do_9 {w : World} {base vp : Nat} {s : Vs} {lab : Nat → Option VLab} {P : VParts} (h : VsIs w base vp s lab P) (hb : base ≤ w.heap.size) (_hg : Good s) (kd n k : Int) (x : Wd) (_hn : Wf n) (hp : pickZ kd 14 = 9) :
    Calls Try.prog 9 #[vptr vp, actv kd n k x] w fun e w' => e = .returned (.int .i64 (killO s n).1) ∧ VsOk w w' base vp (killO s n).2 lab := by
  have hB : Below w.heap.size w (w.alloc (.cells (actc kd n k x) 31)) := (Below.refl _ _).alloc (Nat.le_refl _) _
  have h1 := h.below hB
  have HH := Lib.hid (show base ≤ (w.alloc (.cells (actc kd n k x) 31)).heap.size from by simp; omega)
  have hpk := fun W => pick_any kd 14 W (by omega) (by omega)
  rw [hp] at hpk
  have HP := Lib.hid hpk
  have HA := Lib.hid (killLocal_any h1 n _hn)
  have HBw := Lib.hid hB
  clear h1 hb h HH hpk hB hp _hg _hn
  go_enter Try.func9, Try.ntmps9
  go_wp2_with fail
  refine (HP.out _).mono ?_
  rintro e w' ⟨rfl, rfl⟩
  go_wp2_with fail
  refine HA.out.mono ?_
  rintro e w' ⟨rfl, hok⟩
  have HF := Lib.hid (VsOk.first HBw.out hok)
  clear hok
  go_wp2_with fail
  go_ret
  exact ⟨rfl, HF.out⟩
set_option maxHeartbeats 1000000 in
theorem do_10 {w : World} {base vp : Nat} {s : Vs} {lab : Nat → Option VLab} {P : VParts} (h : VsIs w base vp s lab P) (hb : base ≤ w.heap.size) (_hg : Good s) (kd n k : Int) (x : Wd) (_hn : Wf n) (hp : pickZ kd 14 = 10) :
    Calls Try.prog 9 #[vptr vp, actv kd n k x] w fun e w' => e = .returned (.int .i64 (setLocalO s n k x).1) ∧ VsOk w w' base vp (setLocalO s n k x).2 lab := by
  have hB : Below w.heap.size w (w.alloc (.cells (actc kd n k x) 31)) := (Below.refl _ _).alloc (Nat.le_refl _) _
  have h1 := h.below hB
  have HH := Lib.hid (show base ≤ (w.alloc (.cells (actc kd n k x) 31)).heap.size from by simp; omega)
  have hpk := fun W => pick_any kd 14 W (by omega) (by omega)
  rw [hp] at hpk
  have HP := Lib.hid hpk
  have HA := Lib.hid (setLocal_any h1 HH.out n k x _hn)
  have HBw := Lib.hid hB
  clear h1 hb h HH hpk hB hp _hg _hn
  go_enter Try.func9, Try.ntmps9
  go_wp2_with fail
  refine (HP.out _).mono ?_
  rintro e w' ⟨rfl, rfl⟩
  go_wp2_with fail
  refine HA.out.mono ?_
  rintro e w' ⟨rfl, hok⟩
  have HF := Lib.hid (VsOk.first HBw.out hok)
  clear hok
  go_wp2_with fail
  go_ret
  exact ⟨rfl, HF.out⟩
set_option maxHeartbeats 1000000 in
theorem do_11 {w : World} {base vp : Nat} {s : Vs} {lab : Nat → Option VLab} {P : VParts} (h : VsIs w base vp s lab P) (hb : base ≤ w.heap.size) (_hg : Good s) (kd n k : Int) (x : Wd) (_hn : Wf n) (hp : pickZ kd 14 = 11) :
    Calls Try.prog 9 #[vptr vp, actv kd n k x] w fun e w' => e = .returned (.int .i64 (setDefaultO s n x).1) ∧ VsOk w w' base vp (setDefaultO s n x).2 lab := by
  have hB : Below w.heap.size w (w.alloc (.cells (actc kd n k x) 31)) := (Below.refl _ _).alloc (Nat.le_refl _) _
  have h1 := h.below hB
  have HH := Lib.hid (show base ≤ (w.alloc (.cells (actc kd n k x) 31)).heap.size from by simp; omega)
  have hpk := fun W => pick_any kd 14 W (by omega) (by omega)
  rw [hp] at hpk
  have HP := Lib.hid hpk
  have HA := Lib.hid (setDefault_any h1 HH.out n x _hn)
  have HBw := Lib.hid hB
  clear h1 hb h HH hpk hB hp _hg _hn
  go_enter Try.func9, Try.ntmps9
  go_wp2_with fail
  refine (HP.out _).mono ?_
  rintro e w' ⟨rfl, rfl⟩
  go_wp2_with fail
  refine HA.out.mono ?_
  rintro e w' ⟨rfl, hok⟩
  have HF := Lib.hid (VsOk.first HBw.out hok)
  clear hok
  go_wp2_with fail
  go_ret
  exact ⟨rfl, HF.out⟩
set_option maxHeartbeats 1000000 in
theorem do_12 {w : World} {base vp : Nat} {s : Vs} {lab : Nat → Option VLab} {P : VParts} (h : VsIs w base vp s lab P) (hb : base ≤ w.heap.size) (_hg : Good s) (kd n k : Int) (x : Wd) (_hn : Wf n) (hp : pickZ kd 14 = 12) :
    Calls Try.prog 9 #[vptr vp, actv kd n k x] w fun e w' => e = .returned (.int .i64 (dropO s k).1) ∧ VsOk w w' base vp (dropO s k).2 lab := by
  have hB : Below w.heap.size w (w.alloc (.cells (actc kd n k x) 31)) := (Below.refl _ _).alloc (Nat.le_refl _) _
  have h1 := h.below hB
  have HH := Lib.hid (show base ≤ (w.alloc (.cells (actc kd n k x) 31)).heap.size from by simp; omega)
  have hpk := fun W => pick_any kd 14 W (by omega) (by omega)
  rw [hp] at hpk
  have HP := Lib.hid hpk
  have HA := Lib.hid (drop_any h1 k)
  have HBw := Lib.hid hB
  clear h1 hb h HH hpk hB hp _hg _hn
  go_enter Try.func9, Try.ntmps9
  go_wp2_with fail
  refine (HP.out _).mono ?_
  rintro e w' ⟨rfl, rfl⟩
  go_wp2_with fail
  refine HA.out.mono ?_
  rintro e w' ⟨rfl, hok⟩
  have HF := Lib.hid (VsOk.first HBw.out hok)
  clear hok
  go_wp2_with fail
  go_ret
  exact ⟨rfl, HF.out⟩
set_option maxHeartbeats 1000000 in
theorem do_13 {w : World} {base vp : Nat} {s : Vs} {lab : Nat → Option VLab} {P : VParts} (h : VsIs w base vp s lab P) (hb : base ≤ w.heap.size) (_hg : Good s) (kd n k : Int) (x : Wd) (_hn : Wf n) (hp : pickZ kd 14 = 13) :
    Calls Try.prog 9 #[vptr vp, actv kd n k x] w fun e w' => e = .returned (.int .i64 (((0 : Int), s)).1) ∧ VsOk w w' base vp (((0 : Int), s)).2 lab := by
  have hB : Below w.heap.size w (w.alloc (.cells (actc kd n k x) 31)) := (Below.refl _ _).alloc (Nat.le_refl _) _
  have h1 := h.below hB
  have HH := Lib.hid (show base ≤ (w.alloc (.cells (actc kd n k x) 31)).heap.size from by simp; omega)
  have hpk := fun W => pick_any kd 14 W (by omega) (by omega)
  rw [hp] at hpk
  have HP := Lib.hid hpk
  have HF := Lib.hid (VsOk.of h hB)
  clear h1 hb h HH hpk hB hp _hg _hn
  go_enter Try.func9, Try.ntmps9
  go_wp2_with fail
  refine (HP.out _).mono ?_
  rintro e w' ⟨rfl, rfl⟩
  go_wp2_with fail
  go_ret
  exact ⟨rfl, HF.out⟩
theorem do_any {w : World} {base vp : Nat} {s : Vs} {lab : Nat → Option VLab} {P : VParts} (h : VsIs w base vp s lab P) (hb : base ≤ w.heap.size) (hg : Good s) (kd n k : Int) (x : Wd) (hn : Wf n) :
    Calls Try.prog 9 #[vptr vp, actv kd n k x] w fun e w' => e = .returned (.int .i64 (actO s (pickZ kd 14) n k x).1) ∧ VsOk w w' base vp (actO s (pickZ kd 14) n k x).2 lab := by
  have hr := pick_range kd 14 (by omega)
  have hc : pickZ kd 14 = 0 ∨ pickZ kd 14 = 1 ∨ pickZ kd 14 = 2 ∨ pickZ kd 14 = 3 ∨ pickZ kd 14 = 4 ∨ pickZ kd 14 = 5 ∨ pickZ kd 14 = 6 ∨ pickZ kd 14 = 7 ∨ pickZ kd 14 = 8 ∨ pickZ kd 14 = 9 ∨ pickZ kd 14 = 10 ∨ pickZ kd 14 = 11 ∨ pickZ kd 14 = 12 ∨ pickZ kd 14 = 13 := by omega
  rcases hc with e | e | e | e | e | e | e | e | e | e | e | e | e | e
  · have := do_0 h hb hg kd n k x hn e
    rw [e]
    exact this
  · have := do_1 h hb hg kd n k x hn e
    rw [e]
    exact this
  · have := do_2 h hb hg kd n k x hn e
    rw [e]
    exact this
  · have := do_3 h hb hg kd n k x hn e
    rw [e]
    exact this
  · have := do_4 h hb hg kd n k x hn e
    rw [e]
    exact this
  · have := do_5 h hb hg kd n k x hn e
    rw [e]
    exact this
  · have := do_6 h hb hg kd n k x hn e
    rw [e]
    exact this
  · have := do_7 h hb hg kd n k x hn e
    rw [e]
    exact this
  · have := do_8 h hb hg kd n k x hn e
    rw [e]
    exact this
  · have := do_9 h hb hg kd n k x hn e
    rw [e]
    exact this
  · have := do_10 h hb hg kd n k x hn e
    rw [e]
    exact this
  · have := do_11 h hb hg kd n k x hn e
    rw [e]
    exact this
  · have := do_12 h hb hg kd n k x hn e
    rw [e]
    exact this
  · have := do_13 h hb hg kd n k x hn e
    rw [e]
    exact this

theorem good_put {s : Vs} (h : Good s) (n k : Int) (c : Cl) : Good (putC s n k c) := fun b hb h0 => by
  have := h b hb h0
  unfold putC
  by_cases e : 0 = k ∧ b.n = n <;> simp [e, this]
theorem good_bind {s : Vs} (h : Good s) (n : Int) (x : Wd) : Good (bindO s n x).2 := by
  unfold bindO
  split
  · split
    · exact h
    · intro b hb h0
      rcases List.mem_append.1 hb with hb | hb
      · have := h b hb h0
        simp only [putC]
        split
        · rfl
        · exact this
      · obtain rfl := List.mem_singleton.1 hb
        simp only at h0
        simp [putC, h0]
  · exact h
theorem good_unbind {s : Vs} (h : Good s) (k : Int) : Good (unbindO s k).2 := by
  unfold unbindO
  split
  · intro b hb h0
    have := h b (List.mem_of_mem_take hb) h0
    have hu : ∀ (l : List Bd) (t : Vs), (t.cells 0 b.n).isSome = true → ((undoL t l).cells 0 b.n).isSome = true := by
      intro l
      induction l with
      | nil => intro t ht; exact ht
      | cons c l ih => intro t ht; exact ih _ (undoO_some t c 0 b.n ht)
    exact hu _ _ this
  · exact h
theorem good_cells {s t : Vs} (h : Good s) (hb : t.binds = s.binds) (hc : ∀ n, t.cells 0 n = s.cells 0 n) : Good t := fun b hb' h0 => by
  rw [hb] at hb'
  rw [hc]
  exact h b hb' h0
theorem good_set {s : Vs} (h : Good s) (n : Int) (c : Cl) : Good (setO s n c).2 := by
  unfold setO
  split
  · exact good_put h _ _ _
  · exact h
theorem good_mark {s : Vs} (h : Good s) (n m : Int) : Good (markO s n m).2 := by
  unfold markO
  split
  · exact good_cells h rfl fun _ => rfl
  · exact h
theorem good_scope {s : Vs} (h : Good s) (k : Int) : Good (setScopeO s k).2 := by
  unfold setScopeO
  split
  · exact good_cells h rfl fun _ => rfl
  · exact h
theorem good_makeLocal {s : Vs} (h : Good s) (n : Int) : Good (makeLocalO s n).2 := by
  unfold makeLocalO
  split
  · split
    · exact h
    · split
      · exact h
      · exact good_put h _ _ _
  · exact h
theorem good_kill {s : Vs} (h : Good s) (n : Int) : Good (killO s n).2 := by
  unfold killO
  split
  · split
    · exact h
    · next _ hne =>
      refine good_cells h rfl fun m => ?_
      simp only [killC, killS]
      split
      · next e => exact absurd e.1.symm hne
      · rfl
  · exact h
theorem good_setLocal {s : Vs} (h : Good s) (n k : Int) (x : Wd) : Good (setLocalO s n k x).2 := by
  unfold setLocalO
  split
  · split
    · split
      · exact h
      · exact good_put h _ _ _
    · exact h
  · exact h
theorem good_setDefault {s : Vs} (h : Good s) (n : Int) (x : Wd) : Good (setDefaultO s n x).2 := by
  unfold setDefaultO
  split
  · exact good_put h _ _ _
  · exact h
theorem good_drop {s : Vs} (h : Good s) (k : Int) : Good (dropO s k).2 := by
  unfold dropO
  split
  · next e =>
    have hk : k ≠ 0 := fun e0 => by
      subst e0
      simp [isScopeB] at e
    refine good_cells h rfl fun m => ?_
    simp only [dropS]
    split
    · next e0 => exact absurd e0.symm hk
    · rfl
  · exact h
theorem good_act {s : Vs} (h : Good s) (p n k : Int) (x : Wd) : Good (actO s p n k x).2 := by
  unfold actO
  by_cases e0 : p = 0
  · rw [if_pos e0]
    exact good_set h _ _
  rw [if_neg e0]
  by_cases e1 : p = 1
  · rw [if_pos e1]
    exact good_set h _ _
  rw [if_neg e1]
  by_cases e2 : p = 2
  · rw [if_pos e2]
    exact good_mark h _ _
  rw [if_neg e2]
  by_cases e3 : p = 3
  · rw [if_pos e3]
    exact good_mark h _ _
  rw [if_neg e3]
  by_cases e4 : p = 4
  · rw [if_pos e4]
    exact good_bind h _ _
  rw [if_neg e4]
  by_cases e5 : p = 5
  · rw [if_pos e5]
    exact good_bind h _ _
  rw [if_neg e5]
  by_cases e6 : p = 6
  · rw [if_pos e6]
    exact good_unbind h _
  rw [if_neg e6]
  by_cases e7 : p = 7
  · rw [if_pos e7]
    exact good_scope h _
  rw [if_neg e7]
  by_cases e8 : p = 8
  · rw [if_pos e8]
    exact good_makeLocal h _
  rw [if_neg e8]
  by_cases e9 : p = 9
  · rw [if_pos e9]
    exact good_kill h _
  rw [if_neg e9]
  by_cases e10 : p = 10
  · rw [if_pos e10]
    exact good_setLocal h _ _ _
  rw [if_neg e10]
  by_cases e11 : p = 11
  · rw [if_pos e11]
    exact good_setDefault h _ _
  rw [if_neg e11]
  by_cases e12 : p = 12
  · rw [if_pos e12]
    exact good_drop h _
  rw [if_neg e12]
  exact h
end Go.Proofs.Ytkbdonecbepfnaa.Vs
