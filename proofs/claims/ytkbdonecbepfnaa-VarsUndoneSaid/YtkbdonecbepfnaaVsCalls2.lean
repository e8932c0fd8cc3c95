/- The contracts of Set, Clear, SetLocal, MakeLocal, SetScope, Scope, Depth, Get, Local, MarkSpecial and MarkConst. -/
import Derived.Test.YtkbdonecbepfnaaVsCalls
namespace Go.Proofs.Ytkbdonecbepfnaa.Vs
open Go.RowKit Go.Maps
open Go.Proofs.Ytkbdonecbepfnaa.Own
set_option maxRecDepth 100000

theorem moreF {w : World} {a : Addr} {v : Value} (h : w.cell? a = some v) (hf : w.frozen? a = false) : ∀ o, (w.alloc o).frozen? a = false := fun o => ((Below.refl _ _).alloc (Nat.le_refl _) o).frozen (World.block_lt_of_cell? _ _ h) |>.trans hf
theorem set_any {w : World} {base vp : Nat} {s : Vs} {lab : Nat → Option VLab} {P : VParts} (h : VsIs w base vp s lab P) (hb : base ≤ w.heap.size) (n : Int) (x : Wd) (hn : Wf n) : Calls Try.prog 23 #[vptr vp, .int .i64 n, wdv x] w fun e w' => e = .returned (.int .i64 (setO s n (x, true)).1) ∧ VsOk w w' base vp (setO s n (x, true)).2 lab := by
  have hB := box_below w (wbox x)
  have HS := Lib.hid (change_any (h.below hB) (box_base hb _) n (x, true) hn)
  have HB := Lib.hid hB
  clear h hb hn hB
  go_enter Try.func23, Try.ntmps23
  go_wp2_with fail
  refine HS.out.mono ?_
  rintro e w' ⟨rfl, hok⟩
  go_wp2_with fail
  go_ret
  exact ⟨rfl, hok.first HB.out⟩
theorem clear_any {w : World} {base vp : Nat} {s : Vs} {lab : Nat → Option VLab} {P : VParts} (h : VsIs w base vp s lab P) (hb : base ≤ w.heap.size) (n : Int) (hn : Wf n) : Calls Try.prog 32 #[vptr vp, .int .i64 n] w fun e w' => e = .returned (.int .i64 (setO s n ((0, 0), false)).1) ∧ VsOk w w' base vp (setO s n ((0, 0), false)).2 lab := by
  have HS := Lib.hid (change_any h hb n ((0, 0), false) hn)
  clear h hb hn
  go_enter Try.func32, Try.ntmps32
  go_wp2_with fail
  refine HS.out.mono ?_
  rintro e w' ⟨rfl, hok⟩
  go_wp2_with fail
  go_ret
  exact ⟨rfl, hok⟩

theorem scope_any {w : World} {base vp : Nat} {s : Vs} {lab : Nat → Option VLab} {P : VParts} (h : VsIs w base vp s lab P) : Calls Try.prog 14 #[vptr vp] w fun e w' => e = .returned (.int .i64 s.scope) ∧ w = w' := by
  have HV := Lib.hid h.valid
  obtain ⟨c0, c1, c2, c3⟩ := h.blk.four
  clear h
  go_enter Try.func14, Try.ntmps14
  go_wp2_with fail
  refine HV.out.mono ?_
  rintro e w' ⟨rfl, rfl⟩
  go_wp2
  go_ret
  exact ⟨rfl, rfl⟩
theorem VsIs.bvForm {w : World} {base vp : Nat} {s : Vs} {lab : Nat → Option VLab} {P : VParts} (h : VsIs w base vp s lab P) : ∃ A cap, P.bv = .slice A s.binds.length cap := by
  rcases h.binds.2 with ⟨h1, h2⟩ | ⟨g, cap, cur, h1, _⟩
  · exact ⟨none, 0, by rw [h1]; simp [h2]⟩
  · exact ⟨_, _, h1⟩
theorem depth_any {w : World} {base vp : Nat} {s : Vs} {lab : Nat → Option VLab} {P : VParts} (h : VsIs w base vp s lab P) : Calls Try.prog 11 #[vptr vp] w fun e w' => e = .returned (.int .i64 (s.binds.length : Int)) ∧ w = w' := by
  have HV := Lib.hid h.valid
  obtain ⟨A, cap, hbv⟩ := h.bvForm
  obtain ⟨c0, c1, c2, c3'⟩ := h.blk.four
  have c3 := c3'.trans (congrArg some hbv)
  clear h hbv c3'
  go_enter Try.func11, Try.ntmps11
  go_wp2_with fail
  refine HV.out.mono ?_
  rintro e w' ⟨rfl, rfl⟩
  go_wp2
  go_ret
  exact ⟨rfl, rfl⟩

/-- The header is written. -/
theorem VsIs.header {w w' : World} {base vp : Nat} {s : Vs} {lab : Nat → Option VLab} {P : VParts} (h : VsIs w base vp s lab P) (k : Int) (hk : 0 ≤ k ∧ k ≤ 65536) (hK : Keeps (fun b => b = vp) w w') (hb : Blk w' vp #[.map (some P.cb), .map (some P.mb), .int .i64 k, P.bv] 56) :
    VsIs w' base vp ⟨s.has, s.cells, s.marks, k, s.binds⟩ lab P ∧ VAfter w w' lab lab := by
  have hl := h.hdr
  have hF : ∀ b l, lab b = some l → l ≠ .hdr → ¬ (b = vp) := fun b l hx hne e => by
    rw [e, hl] at hx
    cases hx
    exact hne rfl
  refine ⟨{ h with
    inb := fun b l hb => ⟨(h.inb b l hb).1, Nat.lt_of_lt_of_le (h.inb b l hb).2 hK.size⟩
    blk := hb
    outer := h.outer.keeps hK (hF _ _ h.clab (by simp))
    inner := fun j hj => (h.inner j hj).keeps hK (hF _ _ (h.ilab j hj) (by simp))
    cell := fun j m d hd => (h.cell j m d hd).keeps hK (hF _ _ (h.cclab j m d hd) (by simp))
    marks := h.marks.keeps hK (hF _ _ h.mlab (by simp))
    binds := owns_keeps h.binds hK fun b hb => hF _ _ (h.blab b hb) (by simp)
    kbox := fun i b hb => ⟨(h.kbox i b hb).1, (h.kbox i b hb).2.keeps hK (hF _ _ (h.kbox i b hb).1 (by simp))⟩
    nbox := fun i b hb => ⟨(h.nbox i b hb).1, (h.nbox i b hb).2.keeps hK (hF _ _ (h.nbox i b hb).1 (by simp))⟩
    sok := hk }, ⟨hK.mono fun b _ e => ?_, fun b hb => .inl hb⟩⟩
  subst e
  unfold VOf
  rw [hl]
  simp
def setScopeO (s : Vs) (k : Int) : Int × Vs := if 0 ≤ k ∧ k ≤ 65536 then (0, ⟨s.has, s.cells, s.marks, k, s.binds⟩) else (3, s)
theorem setScope_any {w : World} {base vp : Nat} {s : Vs} {lab : Nat → Option VLab} {P : VParts} (h : VsIs w base vp s lab P) (k : Int) : Calls Try.prog 15 #[vptr vp, .int .i64 k] w fun e w' => e = .returned (.int .i64 (setScopeO s k).1) ∧ VsOk w w' base vp (setScopeO s k).2 lab := by
  have HV := Lib.hid h.valid
  have HI := Lib.hid (isScope_any k w)
  obtain ⟨c0, c1, c2, c3⟩ := h.blk.four
  have f2 := h.blk.free 2
  unfold setScopeO
  by_cases h0 : k = 0
  · subst h0
    rw [if_pos (by omega)]
    obtain ⟨h1, h2⟩ := h.header 0 (by omega) ((Keeps.refl (fun b => b = vp) w).setCell ⟨vp, 2, none⟩ (.int .i64 0) fun _ => rfl) (by simpa using h.blk.set 2 (.int .i64 0))
    have HF := Lib.hid (show VsOk w _ base vp ⟨s.has, s.cells, s.marks, 0, s.binds⟩ lab from ⟨lab, P, h1, h2⟩)
    clear h h1 h2 HI
    go_enter Try.func15, Try.ntmps15
    go_wp2_with fail
    refine HV.out.mono ?_
    rintro e w' ⟨rfl, rfl⟩
    go_wp2
    go_ret
    exact ⟨rfl, HF.out⟩
  · have hz : (k == 0) = false := beq_eq_false_iff_ne.2 h0
    by_cases hk : 1 ≤ k ∧ k ≤ 65536
    · rw [if_pos (by omega)]
      rw [show isScopeB k = true from decide_eq_true hk] at HI
      obtain ⟨h1, h2⟩ := h.header k (by omega) ((Keeps.refl (fun b => b = vp) w).setCell ⟨vp, 2, none⟩ (.int .i64 k) fun _ => rfl) (by simpa using h.blk.set 2 (.int .i64 k))
      have HF := Lib.hid (show VsOk w _ base vp ⟨s.has, s.cells, s.marks, k, s.binds⟩ lab from ⟨lab, P, h1, h2⟩)
      clear h h1 h2 hk
      go_enter Try.func15, Try.ntmps15
      go_wp2_with fail
      refine HV.out.mono ?_
      rintro e w' ⟨rfl, rfl⟩
      go_wp2_with fail
      refine HI.out.mono ?_
      rintro e w' ⟨rfl, rfl⟩
      go_wp2
      go_ret
      exact ⟨rfl, HF.out⟩
    · rw [if_neg (by omega)]
      rw [show isScopeB k = false from decide_eq_false hk] at HI
      have HF := Lib.hid (VsOk.of h (Below.refl _ _))
      clear h hk
      go_enter Try.func15, Try.ntmps15
      go_wp2_with fail
      refine HV.out.mono ?_
      rintro e w' ⟨rfl, rfl⟩
      go_wp2_with fail
      refine HI.out.mono ?_
      rintro e w' ⟨rfl, rfl⟩
      go_wp2
      go_ret
      exact ⟨rfl, HF.out⟩

def getO (s : Vs) (n : Int) : Cl := contentO s n (homeO s n)
set_option maxHeartbeats 1000000 in
theorem get_any {w : World} {base vp : Nat} {s : Vs} {lab : Nat → Option VLab} {P : VParts} (h : VsIs w base vp s lab P) (n : Int) (hn : Wf n) : Calls Try.prog 19 #[vptr vp, .int .i64 n] w fun e w' => e = .returned (.tuple #[wdv (getO s n).1, .bool (getO s n).2]) ∧ Below w.heap.size w w' := by
  have hB := box_below w (wbox (0, 0))
  have h1 := h.below hB
  have HV := Lib.hid h1.valid
  have HH := Lib.hid (home_any h1 n hn)
  have HC := Lib.hid (content_any h1 n (homeO s n) hn (by have := homeO_ok h n; unfold Wf; omega))
  rw [show contentO s n (homeO s n) = getO s n from rfl] at HC
  have HB := Lib.hid hB
  clear h h1 hB hn
  go_enter Try.func19, Try.ntmps19
  go_wp2_with fail
  refine HV.out.mono ?_
  rintro e w' ⟨rfl, rfl⟩
  go_wp2_with fail
  refine HH.out.mono ?_
  rintro e w' ⟨rfl, rfl⟩
  go_wp2_with fail
  refine HC.out.mono ?_
  rintro e w2 ⟨rfl, hb2⟩
  have hN := one_new hb2
  obtain ⟨b0, b1⟩ := (⟨hN.cell 0 _ rfl, hN.cell 1 _ rfl⟩ : _ ∧ _)
  have f0 := hN.free 0
  have f1 := hN.free 1
  have hfin := ((hN.alloc (cbox (getO s n))).set 0 (.int .i64 (getO s n).1.1)).set 1 (.int .i64 (getO s n).1.2)
  have e0 := hfin.cell 0 (.int .i64 (getO s n).1.1) (by simp)
  have e1 := hfin.cell 1 (.int .i64 (getO s n).1.2) (by simp)
  have E0 := Lib.hid e0
  have E1 := Lib.hid e1
  have HB3 := Lib.hid (HB.out.trans (hb2.mono HB.out.size))
  clear hfin e0 e1
  have m0 := more b0
  have m1 := more b1
  have g0 := moreF b0 f0
  have g1 := moreF b1 f1
  have HB2 := Lib.hid hb2
  have HN := Lib.hid hN.lt
  clear hb2 hN
  go_wp2_with fail
  go_region
  all_goals (
    go_wp2_with fail
    have e0 := E0.out
    have e1 := E1.out
    refine bodyPost_ret (v := .tuple #[wdv (getO s n).1, .bool (getO s n).2]) (by simp [results, Try.results19, go_sem, e0, e1]) rfl ⟨rfl, ?_⟩
    exact (((HB3.out.alloc HB3.out.size _).setCell (p := ⟨w.heap.size, 0, none⟩) (Nat.le_refl _) _).setCell (p := ⟨w.heap.size, 1, none⟩) (Nat.le_refl _) _).drew)
end Go.Proofs.Ytkbdonecbepfnaa.Vs
