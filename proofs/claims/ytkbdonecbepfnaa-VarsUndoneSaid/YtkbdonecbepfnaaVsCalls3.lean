/- The contracts of SetLocal, MakeLocal, Local, KillLocal and Drop. -/
import Derived.Test.YtkbdonecbepfnaaVsCalls2
import Derived.Deep.RegionLaw
namespace Go.Proofs.Ytkbdonecbepfnaa.Vs
open Go.RowKit Go.Maps
open Go.Proofs.Ytkbdonecbepfnaa.Own
set_option maxRecDepth 100000

def setLocalO (s : Vs) (n k : Int) (x : Wd) : Int × Vs := if checkO n = 0 then (if isScopeB k = true then (if markB s n 2 = true then (10, s) else (0, putC s n k (x, true))) else (3, s)) else (8, s)
set_option maxHeartbeats 1000000 in
theorem setLocal_any {w : World} {base vp : Nat} {s : Vs} {lab : Nat → Option VLab} {P : VParts} (h : VsIs w base vp s lab P) (hb : base ≤ w.heap.size) (n k : Int) (x : Wd) (hn : Wf n) : Calls Try.prog 21 #[vptr vp, .int .i64 n, .int .i64 k, wdv x] w fun e w' => e = .returned (.int .i64 (setLocalO s n k x).1) ∧ VsOk w w' base vp (setLocalO s n k x).2 lab := by
  have hB := box_below w (wbox x)
  have h1 := h.below hB
  have HC := Lib.hid (check_any h1 n)
  have HI := Lib.hid (isScope_any k (w.alloc (wbox x)))
  have HM := Lib.hid (const_any h1 n hn)
  have HF := Lib.hid (VsOk.of h hB)
  unfold setLocalO
  rcases checkO_cases n with ⟨e, hr⟩ | e
  · rw [e] at HC
    rw [if_pos e]
    cases hk : isScopeB k with
    | false =>
      rw [hk] at HI
      rw [if_neg (by simp)]
      clear h h1 hB e hr hn hb hk HM
      go_enter Try.func21, Try.ntmps21
      go_wp2_with fail
      refine HC.out.mono ?_
      rintro e w' ⟨rfl, rfl⟩
      go_wp2_with fail
      refine HI.out.mono ?_
      rintro e w' ⟨rfl, rfl⟩
      go_wp2_with fail
      go_ret
      exact ⟨rfl, HF.out⟩
    | true =>
      rw [hk] at HI
      rw [if_pos rfl]
      have hkr : 1 ≤ k ∧ k ≤ 65536 := of_decide_eq_true hk
      cases hm : markB s n 2 with
      | true =>
        rw [hm] at HM
        rw [if_pos rfl]
        clear h h1 hB e hr hn hb hk hkr hm
        go_enter Try.func21, Try.ntmps21
        go_wp2_with fail
        refine HC.out.mono ?_
        rintro e w' ⟨rfl, rfl⟩
        go_wp2_with fail
        refine HI.out.mono ?_
        rintro e w' ⟨rfl, rfl⟩
        go_wp2_with fail
        refine HM.out.mono ?_
        rintro e w' ⟨rfl, rfl⟩
        go_wp2_with fail
        go_ret
        exact ⟨rfl, HF.out⟩
      | false =>
        rw [hm] at HM
        rw [if_neg (by simp)]
        have HS := Lib.hid (store_any h1 (box_base hb _) n k (x, true) hr (by omega))
        have HB := Lib.hid hB
        clear h h1 hB e hr hn hb hk hkr hm
        go_enter Try.func21, Try.ntmps21
        go_wp2_with fail
        refine HC.out.mono ?_
        rintro e w' ⟨rfl, rfl⟩
        go_wp2_with fail
        refine HI.out.mono ?_
        rintro e w' ⟨rfl, rfl⟩
        go_wp2_with fail
        refine HM.out.mono ?_
        rintro e w' ⟨rfl, rfl⟩
        go_wp2_with fail
        refine HS.out.mono ?_
        rintro e w' ⟨rfl, hok⟩
        go_wp2_with fail
        go_ret
        exact ⟨rfl, hok.first HB.out⟩
  · rw [e] at HC
    rw [if_neg (by omega)]
    clear h h1 hB e hn hb HI HM
    go_enter Try.func21, Try.ntmps21
    go_wp2_with fail
    refine HC.out.mono ?_
    rintro e w' ⟨rfl, rfl⟩
    go_wp2_with fail
    go_ret
    exact ⟨rfl, HF.out⟩

def makeLocalO (s : Vs) (n : Int) : Int × Vs := if changeO s n = 0 then (if s.scope = 0 then (9, s) else (if isLocalB s n s.scope = true then (0, s) else (0, putC s n s.scope (contentO s n 0)))) else (changeO s n, s)
set_option maxHeartbeats 2000000 in
theorem makeLocal_any {w : World} {base vp : Nat} {s : Vs} {lab : Nat → Option VLab} {P : VParts} (h : VsIs w base vp s lab P) (hb : base ≤ w.heap.size) (n : Int) (hn : Wf n) : Calls Try.prog 22 #[vptr vp, .int .i64 n] w fun e w' => e = .returned (.int .i64 (makeLocalO s n).1) ∧ VsOk w w' base vp (makeLocalO s n).2 lab := by
  have HC := Lib.hid (checkChange_any h n hn)
  have HF := Lib.hid (VsOk.of h (Below.refl _ _))
  obtain ⟨c0, c1, c2, c3⟩ := h.blk.four
  unfold makeLocalO
  rcases changeO_cases s n with ⟨e, hr⟩ | e | e
  · rw [e] at HC
    rw [if_pos e]
    have hso := h.sok
    obtain ⟨k, hk⟩ : ∃ k, s.scope = k := ⟨_, rfl⟩
    rw [hk] at c2 hso ⊢
    by_cases h0 : k = 0
    · subst h0
      rw [if_pos rfl]
      clear h e hr hn hb hk hso
      go_enter Try.func22, Try.ntmps22
      go_wp2_with fail
      refine HC.out.mono ?_
      rintro e w' ⟨rfl, rfl⟩
      go_wp2_with fail
      go_ret
      exact ⟨rfl, HF.out⟩
    · rw [if_neg h0]
      have hz : (k == 0) = false := beq_eq_false_iff_ne.2 h0
      have hwk : Wf k := by unfold Wf; omega
      have HI := Lib.hid (isLocal_any h n k hn hwk)
      cases hi : isLocalB s n k with
      | true =>
        rw [hi] at HI
        rw [if_pos rfl]
        clear h e hr hn hb hk hso h0 hwk hi
        go_enter Try.func22, Try.ntmps22
        go_wp2_with fail
        refine HC.out.mono ?_
        rintro e w' ⟨rfl, rfl⟩
        go_wp2_with fail
        refine HI.out.mono ?_
        rintro e w' ⟨rfl, rfl⟩
        go_wp2_with fail
        go_ret
        exact ⟨rfl, HF.out⟩
      | false =>
        rw [hi] at HI
        rw [if_neg (by simp)]
        have hmx : Try.prog.follows .mixedOrders = true := by kernel_rfl
        have HT := Lib.hid (fun W (hW : Below w.heap.size w W) => content_any (h.below hW) n 0 hn (by unfold Wf; omega))
        have HS := Lib.hid (fun W (hW : Below w.heap.size w W) => (store_any (h.below hW) (Nat.le_trans hb hW.size) n k (contentO s n 0) hr hso).mono (R' := fun e w' => e = .returned (.tuple #[]) ∧ VsOk w w' base vp (putC s n k (contentO s n 0)) lab) (fun _ _ ⟨he, hok⟩ => ⟨he, hok.first hW⟩))
        have HCl := Lib.hid (fun W (hW : Below w.heap.size w W) => ((h.below hW).blk.cell 2 _ rfl).trans (congrArg (fun x => some (Value.int .i64 x)) hk))
        clear h e hr hn hb hk hso h0 hwk hi HF
        go_enter Try.func22, Try.ntmps22
        go_wp2_with fail
        refine HC.out.mono ?_
        rintro e w' ⟨rfl, rfl⟩
        go_wp2_with fail
        refine HI.out.mono ?_
        rintro e w' ⟨rfl, rfl⟩
        go_wp2_with fail
        go_region_with (first | (go_at_call 42; refine (HT.out _ (by first | exact Below.refl _ _ | exact (Below.refl _ _).drew)).mono ?_; rintro e w1 ⟨rfl, hb1⟩; have hbb := (Below.refl w.heap.size w).drew.trans hb1; have k2 := HCl.out _ hbb; have HBB := Lib.hid hbb; clear hb1 hbb) | (go_at_call 38; refine (HS.out _ HBB.out).mono ?_; rintro e w' ⟨rfl, hok⟩))
        all_goals (
          go_wp2_with fail
          go_ret
          exact ⟨rfl, hok⟩)
  · rw [e] at HC
    rw [if_neg (by omega), e]
    clear h e hn hb
    go_enter Try.func22, Try.ntmps22
    go_wp2_with fail
    refine HC.out.mono ?_
    rintro e w' ⟨rfl, rfl⟩
    go_wp2_with fail
    go_ret
    exact ⟨rfl, HF.out⟩
  · rw [e] at HC
    rw [if_neg (by omega), e]
    clear h e hn hb
    go_enter Try.func22, Try.ntmps22
    go_wp2_with fail
    refine HC.out.mono ?_
    rintro e w' ⟨rfl, rfl⟩
    go_wp2_with fail
    go_ret
    exact ⟨rfl, HF.out⟩

def localO (s : Vs) (n k : Int) : Cl := if isLocalB s n k = true then contentO s n k else ((0, 0), false)
set_option maxHeartbeats 1000000 in
theorem local_any {w : World} {base vp : Nat} {s : Vs} {lab : Nat → Option VLab} {P : VParts} (h : VsIs w base vp s lab P) (n k : Int) (hn : Wf n) (hk : Wf k) : Calls Try.prog 24 #[vptr vp, .int .i64 n, .int .i64 k] w fun e w' => e = .returned (.tuple #[wdv (localO s n k).1, .bool (localO s n k).2]) ∧ Below w.heap.size w w' := by
  have hB := box_below w (wbox (0, 0))
  have h1 := h.below hB
  have HI := Lib.hid (isLocal_any h1 n k hn hk)
  have HB := Lib.hid hB
  unfold localO
  cases hi : isLocalB s n k with
  | false =>
    rw [hi] at HI
    rw [if_neg (by simp)]
    have hN := Blk.new w #[.int .i64 0, .int .i64 0] 29
    clear h h1 hB hn hk hi
    go_enter Try.func24, Try.ntmps24
    go_wp2_with fail
    refine HI.out.mono ?_
    rintro e w' ⟨rfl, rfl⟩
    go_wp2_with fail
    refine bodyPost_ret (v := .tuple #[wdv (0, 0), .bool false]) (by simp [results, Try.results24, go_sem]) rfl ⟨rfl, ?_⟩
    exact HB.out
  | true =>
    rw [hi] at HI
    rw [if_pos rfl]
    have HC := Lib.hid (content_any h1 n k hn hk)
    obtain ⟨c, hc⟩ : ∃ c, contentO s n k = c := ⟨_, rfl⟩
    rw [hc] at HC ⊢
    clear h h1 hB hn hk hi hc
    go_enter Try.func24, Try.ntmps24
    go_wp2_with fail
    refine HI.out.mono ?_
    rintro e w' ⟨rfl, rfl⟩
    go_wp2_with fail
    refine HC.out.mono ?_
    rintro e w2 ⟨rfl, hb2⟩
    have hN := one_new hb2
    obtain ⟨b0, b1⟩ := (⟨hN.cell 0 _ rfl, hN.cell 1 _ rfl⟩ : _ ∧ _)
    have f0 := hN.free 0
    have f1 := hN.free 1
    have hfin := ((hN.alloc (cbox c)).set 0 (.int .i64 c.1.1)).set 1 (.int .i64 c.1.2)
    have e0 := hfin.cell 0 (.int .i64 c.1.1) (by simp)
    have e1 := hfin.cell 1 (.int .i64 c.1.2) (by simp)
    have E0 := Lib.hid e0
    have E1 := Lib.hid e1
    have HB3 := Lib.hid (HB.out.trans (hb2.mono HB.out.size))
    clear hfin e0 e1
    have m0 := more b0
    have m1 := more b1
    have g0 := moreF b0 f0
    have g1 := moreF b1 f1
    clear hb2 hN
    go_wp2_with fail
    go_region
    all_goals (
      go_wp2_with fail
      have e0 := E0.out
      have e1 := E1.out
      refine bodyPost_ret (v := .tuple #[wdv c.1, .bool c.2]) (by simp [results, Try.results24, go_sem, e0, e1]) rfl ⟨rfl, ?_⟩
      exact (((HB3.out.alloc HB3.out.size _).setCell (p := ⟨w.heap.size, 0, none⟩) (Nat.le_refl _) _).setCell (p := ⟨w.heap.size, 1, none⟩) (Nat.le_refl _) _).drew)
end Go.Proofs.Ytkbdonecbepfnaa.Vs
