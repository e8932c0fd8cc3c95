/- The calls that a constant refuses; the states of VarsConst. -/
import Derived.Test.YtkbdonecbepfnaaVsLocMath
namespace Go.Proofs.Ytkbdonecbepfnaa.Vs
set_option maxRecDepth 100000
open Go.RowKit
open Go.Proofs.Ytkbdonecbepfnaa.Own

theorem const_in {s : Vs} {n : Int} (h : changeO s n = 10) : (0 ≤ n ∧ n < 16384) ∧ markB s n 2 = true := by
  unfold changeO at h
  by_cases hn : 0 ≤ n ∧ n < 16384
  · rw [if_pos hn] at h
    cases hm : markB s n 2
    · rw [hm] at h
      simp at h
    · exact ⟨hn, rfl⟩
  · rw [if_neg hn] at h
    omega
theorem setDefault_c {w : World} {base vp : Nat} {s : Vs} {lab : Nat → Option VLab} {P : VParts} (h : VsIs w base vp s lab P) (n : Int) (x : Wd) (hn : Wf n) (hc : changeO s n = 10) : Calls Try.prog 20 #[vptr vp, .int .i64 n, wdv x] w fun e w' => e = .returned (.int .i64 10) ∧ Below w.heap.size w w' := by
  have hB := box_below w (wbox x)
  have h1 := h.below hB
  have HB := Lib.hid hB
  have h2 := checkChange_any h1 n hn
  rw [hc] at h2
  have HC := Lib.hid h2
  clear h2
  clear h hn hc hB h1
  go_enter Try.func20, Try.ntmps20
  go_wp2_with fail
  refine HC.out.mono ?_
  rintro e w' ⟨rfl, rfl⟩
  go_wp2_with fail
  go_ret
  exact ⟨rfl, HB.out⟩
theorem change_c {w : World} {base vp : Nat} {s : Vs} {lab : Nat → Option VLab} {P : VParts} (h : VsIs w base vp s lab P) (n : Int) (c : Cl) (hn : Wf n) (hc : changeO s n = 10) : Calls Try.prog 51 #[vptr vp, .int .i64 n, clv c] w fun e w' => e = .returned (.int .i64 10) ∧ Below w.heap.size w w' := by
  have hB := box_below w (cbox c)
  have h1 := h.below hB
  have HB := Lib.hid hB
  have h2 := checkChange_any h1 n hn
  rw [hc] at h2
  have HC := Lib.hid h2
  clear h2
  clear h hn hc hB h1
  go_enter Try.func51, Try.ntmps51
  go_wp2_with fail
  refine HC.out.mono ?_
  rintro e w' ⟨rfl, rfl⟩
  go_wp2_with fail
  go_ret
  exact ⟨rfl, HB.out⟩
theorem set_c {w : World} {base vp : Nat} {s : Vs} {lab : Nat → Option VLab} {P : VParts} (h : VsIs w base vp s lab P) (n : Int) (x : Wd) (hn : Wf n) (hc : changeO s n = 10) : Calls Try.prog 23 #[vptr vp, .int .i64 n, wdv x] w fun e w' => e = .returned (.int .i64 10) ∧ Below w.heap.size w w' := by
  have hB := box_below w (wbox x)
  have h1 := h.below hB
  have HB := Lib.hid hB
  have HC := Lib.hid (change_c h1 n (x, true) hn hc)
  clear h hn hc hB h1
  go_enter Try.func23, Try.ntmps23
  go_wp2_with fail
  refine HC.out.mono ?_
  rintro e w' ⟨rfl, hb⟩
  go_wp2_with fail
  go_ret
  exact ⟨rfl, HB.out.trans (hb.mono HB.out.size)⟩
theorem clear_c {w : World} {base vp : Nat} {s : Vs} {lab : Nat → Option VLab} {P : VParts} (h : VsIs w base vp s lab P) (n : Int) (hn : Wf n) (hc : changeO s n = 10) : Calls Try.prog 32 #[vptr vp, .int .i64 n] w fun e w' => e = .returned (.int .i64 10) ∧ Below w.heap.size w w' := by
  have hB := Below.refl w.heap.size w
  have h1 := h
  have HC := Lib.hid (change_c h n ((0, 0), false) hn hc)
  clear h hn hc hB h1
  go_enter Try.func32, Try.ntmps32
  go_wp2_with fail
  refine HC.out.mono ?_
  rintro e w' ⟨rfl, hb⟩
  go_wp2_with fail
  go_ret
  exact ⟨rfl, hb⟩
theorem bind_c {w : World} {base vp : Nat} {s : Vs} {lab : Nat → Option VLab} {P : VParts} (h : VsIs w base vp s lab P) (n : Int) (x : Wd) (hn : Wf n) (hc : changeO s n = 10) : Calls Try.prog 13 #[vptr vp, .int .i64 n, wdv x] w fun e w' => e = .returned (.int .i64 10) ∧ Below w.heap.size w w' := by
  have hB := below_two w (ibox n) (wbox x)
  have h1 := h.below hB
  have HB := Lib.hid hB
  have c0 := (two_boxes w #[.int .i64 n] #[.int .i64 x.1, .int .i64 x.2] 3 29).1.cell 0 _ rfl
  have h2 := checkChange_any h1 n hn
  rw [hc] at h2
  have HC := Lib.hid h2
  clear h2
  clear h hn hc hB h1
  go_enter Try.func13, Try.ntmps13
  go_wp2_with fail
  refine HC.out.mono ?_
  rintro e w' ⟨rfl, rfl⟩
  go_wp2_with fail
  go_ret
  exact ⟨rfl, HB.out⟩
theorem makeLocal_c {w : World} {base vp : Nat} {s : Vs} {lab : Nat → Option VLab} {P : VParts} (h : VsIs w base vp s lab P) (n : Int) (hn : Wf n) (hc : changeO s n = 10) : Calls Try.prog 22 #[vptr vp, .int .i64 n] w fun e w' => e = .returned (.int .i64 10) ∧ Below w.heap.size w w' := by
  have hB := Below.refl w.heap.size w
  have h1 := h
  have HB := Lib.hid hB
  have h2 := checkChange_any h1 n hn
  rw [hc] at h2
  have HC := Lib.hid h2
  clear h2
  clear h hn hc hB h1
  go_enter Try.func22, Try.ntmps22
  go_wp2_with fail
  refine HC.out.mono ?_
  rintro e w' ⟨rfl, rfl⟩
  go_wp2_with fail
  go_ret
  exact ⟨rfl, HB.out⟩
theorem setLocal_c {w : World} {base vp : Nat} {s : Vs} {lab : Nat → Option VLab} {P : VParts} (h : VsIs w base vp s lab P) (n : Int) (k : Int) (x : Wd) (hn : Wf n) (hk : 1 ≤ k ∧ k ≤ 65536) (hc : changeO s n = 10) : Calls Try.prog 21 #[vptr vp, .int .i64 n, .int .i64 k, wdv x] w fun e w' => e = .returned (.int .i64 10) ∧ Below w.heap.size w w' := by
  have hB := box_below w (wbox x)
  have h1 := h.below hB
  have HB := Lib.hid hB
  obtain ⟨hr, hm⟩ := const_in hc
  have h2 := check_any h1 n
  rw [show checkO n = 0 from if_pos hr] at h2
  have HC := Lib.hid h2
  have h3 := isScope_any k (w.alloc (wbox x))
  rw [scope_ok hk] at h3
  have HI := Lib.hid h3
  have h4 := const_any h1 n hn
  rw [hm] at h4
  have HM := Lib.hid h4
  clear h hn hc hB h1 h2 h3 h4 hr hm hk
  go_enter Try.func21, Try.ntmps21
  go_wp2_with fail
  refine HC.out.mono ?_
  rintro e w' ⟨rfl, rfl⟩
  go_wp2_with fail
  refine HI.out.mono ?_
  rintro e w' ⟨rfl, rfl⟩
  go_wp2_with fail
  refine HM.out.mono ?_
  rintro e w' ⟨rfl, rfl⟩
  go_wp2_with fail
  go_ret
  exact ⟨rfl, HB.out⟩

/-! ### The states of VarsConst -/
def kS (n : Int) (c : Cl) (k : Int) : Vs := ⟨sN.has, fun j m => if j = 0 ∧ m = n then some c else sN.cells j m, sN.marks, k, []⟩
def cS (n : Int) (c : Cl) (k : Int) : Vs := ⟨sN.has, fun j m => if j = 0 ∧ m = n then some c else sN.cells j m, fun j => if j = n then some 3 else sN.marks j, k, []⟩
theorem con1 (n : Int) (c : Cl) (hn : 2 ≤ n ∧ n < 16384) : setO sN n c = (0, kS n c 0) := by
  rw [← tS_same n hn.1, tS_set n _ _ _ hn]
  rfl
theorem con2 (n : Int) (c : Cl) (k : Int) (hk : 1 ≤ k ∧ k ≤ 65536) : setScopeO (kS n c 0) k = (0, kS n c k) := by
  unfold setScopeO
  rw [if_pos (by omega)]
  rfl
theorem con3 (n : Int) (c : Cl) (k : Int) (hn : 2 ≤ n ∧ n < 16384) : markO (kS n c k) n 3 = (0, cS n c k) := by
  unfold markO
  rw [if_pos (by omega)]
  rfl
theorem con_mark (n : Int) (c : Cl) (k m : Int) : markB (cS n c k) n m = true := by
  unfold markB cS
  simp
theorem con_change (n : Int) (c : Cl) (k : Int) (hn : 2 ≤ n ∧ n < 16384) : changeO (cS n c k) n = 10 := by
  unfold changeO
  rw [if_pos (by omega), con_mark]
  rfl
theorem con_get (n : Int) (c : Cl) (k : Int) (hk : 1 ≤ k ∧ k ≤ 65536) (hn : 2 ≤ n) : getO (cS n c k) n = c := by
  have h1 : isLocalB (cS n c k) n (cS n c k).scope = false := by
    show (isScopeB k && ((cS n c k).cells k n).isSome) = false
    have : (cS n c k).cells k n = none := by
      simp only [cS]
      rw [if_neg (by omega), sN_cells k n hn]
    rw [this]
    simp
  unfold getO contentO homeO
  rw [h1, if_neg (by simp)]
  simp [cS]
theorem con_other (n m : Int) (c d : Cl) (k : Int) (hm : 2 ≤ m ∧ m < 16384) (hne : m ≠ n) : (setO (cS n c k) m d).1 = 0 := by
  unfold setO changeO
  have h1 : markB (cS n c k) m 2 = false := by
    unfold markB cS
    simp only
    rw [if_neg hne, sN_marks m hm.1]
  rw [if_pos (by omega : 0 ≤ m ∧ m < 16384), h1]
  rfl
theorem con_has (n : Int) (c : Cl) (k : Int) (hk : 1 ≤ k) : (cS n c k).has k = false := by
  show sN.has k = false
  rw [sN_has]
  exact decide_eq_false (by omega)
end Go.Proofs.Ytkbdonecbepfnaa.Vs
