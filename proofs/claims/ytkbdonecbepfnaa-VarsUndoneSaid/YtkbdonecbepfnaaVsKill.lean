/- The contracts of KillLocal and Drop. -/
import Derived.Test.YtkbdonecbepfnaaVsCalls2
import Derived.RegionTactic
namespace Go.Proofs.Ytkbdonecbepfnaa.Vs
open Go.RowKit Go.Maps
open Go.Proofs.Ytkbdonecbepfnaa.Own
set_option maxRecDepth 100000
open Classical

/-- A scope without cells. -/
def dropS (s : Vs) (k : Int) : Vs := ⟨fun j => if j = k then false else s.has j, fun j m => if j = k then none else s.cells j m, s.marks, s.scope, s.binds⟩
/-- An inner map is taken off the outer one. -/
theorem VsIs.dropped {w w' : World} {base vp : Nat} {s : Vs} {lab : Nat → Option VLab} {P : VParts} (h : VsIs w base vp s lab P) (k : Int) (hk : Keeps (fun b => b = P.cb) w w') (hm : MapOf w' P.cb (upd (outF s P) k none)) :
    VsIs w' base vp (dropS s k) lab P ∧ VAfter w w' lab lab := by
  have hl := h.clab
  have hF : ∀ b l, lab b = some l → l ≠ .outer → ¬ (b = P.cb) := fun b l hx hne e => by
    rw [e, hl] at hx
    cases hx
    exact hne rfl
  have hh : ∀ j, (dropS s k).has j = true → s.has j = true ∧ j ≠ k := fun j hj => by
    simp only [dropS] at hj
    by_cases e : j = k
    · simp [e] at hj
    · exact ⟨by simpa [e] using hj, e⟩
  have hc : ∀ j m c, (dropS s k).cells j m = some c → s.cells j m = some c ∧ j ≠ k := fun j m c hj => by
    simp only [dropS] at hj
    by_cases e : j = k
    · simp [e] at hj
    · exact ⟨by simpa [e] using hj, e⟩
  refine ⟨{ h with
    inb := fun b l hb => ⟨(h.inb b l hb).1, Nat.lt_of_lt_of_le (h.inb b l hb).2 hk.size⟩
    blk := h.blk.keeps hk (hF _ _ h.hdr (by simp))
    outer := hm.congr fun j => ?_
    ilab := fun j hj => h.ilab j (hh j hj).1
    inner := fun j hj => ((h.inner j (hh j hj).1).keeps hk (hF _ _ (h.ilab j (hh j hj).1) (by simp))).congr fun m => ?_
    chas := fun j m d hd => ?_
    cclab := fun j m d hd => h.cclab j m d (hc j m d hd).1
    cell := fun j m d hd => (h.cell j m d (hc j m d hd).1).keeps hk (hF _ _ (h.cclab j m d (hc j m d hd).1) (by simp))
    marks := h.marks.keeps hk (hF _ _ h.mlab (by simp))
    binds := owns_keeps h.binds hk fun b hb => hF _ _ (h.blab b hb) (by simp)
    kbox := fun i b hb => ⟨(h.kbox i b hb).1, (h.kbox i b hb).2.keeps hk (hF _ _ (h.kbox i b hb).1 (by simp))⟩
    nbox := fun i b hb => ⟨(h.nbox i b hb).1, (h.nbox i b hb).2.keeps hk (hF _ _ (h.nbox i b hb).1 (by simp))⟩ }, ⟨hk.mono fun b _ e => ?_, fun b hb => .inl hb⟩⟩
  · simp only [upd, outF, dropS]
    by_cases e : j = k <;> simp [e]
  · have := (hh j hj).2
    simp [innF, dropS, this]
  · have h1 := hc j m d hd
    simp only [dropS, h1.2, if_false]
    exact h.chas j m d h1.1
  · subst e
    unfold VOf
    rw [hl]
    simp

def dropO (s : Vs) (k : Int) : Int × Vs := if isScopeB k = true then (0, ⟨(dropS s k).has, (dropS s k).cells, s.marks, if s.scope = k then 0 else s.scope, s.binds⟩) else (3, s)
set_option maxHeartbeats 1000000 in
theorem drop_any {w : World} {base vp : Nat} {s : Vs} {lab : Nat → Option VLab} {P : VParts} (h : VsIs w base vp s lab P) (k : Int) : Calls Try.prog 26 #[vptr vp, .int .i64 k] w fun e w' => e = .returned (.int .i64 (dropO s k).1) ∧ VsOk w w' base vp (dropO s k).2 lab := by
  have HV := Lib.hid h.valid
  have HI := Lib.hid (isScope_any k w)
  obtain ⟨c0, c1, c2, c3⟩ := h.blk.four
  unfold dropO
  cases hk : isScopeB k with
  | false =>
    rw [hk] at HI
    rw [if_neg (by simp)]
    have HF := Lib.hid (VsOk.of h (Below.refl _ _))
    clear h hk
    go_enter Try.func26, Try.ntmps26
    go_wp2_with fail
    refine HV.out.mono ?_
    rintro e w' ⟨rfl, rfl⟩
    go_wp2_with fail
    refine HI.out.mono ?_
    rintro e w' ⟨rfl, rfl⟩
    go_wp2_with fail
    go_ret
    exact ⟨rfl, HF.out⟩
  | true =>
    rw [hk] at HI
    rw [if_pos rfl]
    have hkr : 1 ≤ k ∧ k ≤ 65536 := of_decide_eq_true hk
    obtain ⟨w2, hrun, hm2, hg2⟩ := (fun ty => h.outer.drop mapT1 (x := k) (by unfold Wf; omega) ty) 0
    obtain ⟨h2, hA2⟩ := h.dropped k (keeps_grown hg2) hm2
    obtain ⟨d0, d1, d2, d3⟩ := h2.blk.four
    have f2 := h2.blk.free 2
    have hsc : (dropS s k).scope = s.scope := rfl
    rw [hsc] at d2
    by_cases he : s.scope = k
    · rw [if_pos he]
      obtain ⟨h3, hA3⟩ := h2.header 0 (by omega) ((Keeps.refl (fun b => b = vp) w2).setCell ⟨vp, 2, none⟩ (.int .i64 0) fun _ => rfl) (by simpa using h2.blk.set 2 (.int .i64 0))
      have HF := Lib.hid (show VsOk w (w2.setCell ⟨vp, 2, none⟩ (.int .i64 0)) base vp ⟨(dropS s k).has, (dropS s k).cells, s.marks, 0, s.binds⟩ lab from ⟨lab, P, h3, hA2.trans hA3⟩)
      rw [he] at d2 c2
      clear h h2 hA2 hm2 hg2 h3 hA3 hk hkr hsc he
      go_enter Try.func26, Try.ntmps26
      go_wp2_with fail
      refine HV.out.mono ?_
      rintro e w' ⟨rfl, rfl⟩
      go_wp2_with fail
      refine HI.out.mono ?_
      rintro e w' ⟨rfl, rfl⟩
      go_wp2
      go_ret
      exact ⟨rfl, HF.out⟩
    · rw [if_neg he]
      have HF := Lib.hid (show VsOk w w2 base vp ⟨(dropS s k).has, (dropS s k).cells, s.marks, s.scope, s.binds⟩ lab from ⟨lab, P, h2, hA2⟩)
      have hz : (s.scope == k) = false := beq_eq_false_iff_ne.2 he
      clear h h2 hA2 hm2 hg2 hk hkr hsc he
      go_enter Try.func26, Try.ntmps26
      go_wp2_with fail
      refine HV.out.mono ?_
      rintro e w' ⟨rfl, rfl⟩
      go_wp2_with fail
      refine HI.out.mono ?_
      rintro e w' ⟨rfl, rfl⟩
      go_wp2
      go_ret
      exact ⟨rfl, HF.out⟩

/-- A cell is taken off. -/
def killS (s : Vs) (n k : Int) : Vs := ⟨s.has, fun j m => if j = k ∧ m = n then none else s.cells j m, s.marks, s.scope, s.binds⟩
theorem VsIs.killed {w w' : World} {base vp : Nat} {s : Vs} {lab : Nat → Option VLab} {P : VParts} (h : VsIs w base vp s lab P) (n k : Int) (hh : s.has k = true) (hk : Keeps (fun b => b = P.im k) w w') (hm : MapOf w' (P.im k) (upd (innF s P k) n none)) :
    VsIs w' base vp (killS s n k) lab P ∧ VAfter w w' lab lab := by
  have hl := h.ilab k hh
  have hF : ∀ b l, lab b = some l → l ≠ .inner k → ¬ (b = P.im k) := fun b l hx hne e => by
    rw [e, hl] at hx
    cases hx
    exact hne rfl
  have hc : ∀ j m c, (killS s n k).cells j m = some c → s.cells j m = some c := fun j m c hj => by
    simp only [killS] at hj
    split at hj
    · cases hj
    · exact hj
  refine ⟨{ h with
    inb := fun b l hb => ⟨(h.inb b l hb).1, Nat.lt_of_lt_of_le (h.inb b l hb).2 hk.size⟩
    blk := h.blk.keeps hk (hF _ _ h.hdr (by simp))
    outer := h.outer.keeps hk (hF _ _ h.clab (by simp))
    inner := fun j hj => ?_
    chas := fun j m d hd => h.chas j m d (hc j m d hd)
    cclab := fun j m d hd => h.cclab j m d (hc j m d hd)
    cell := fun j m d hd => (h.cell j m d (hc j m d hd)).keeps hk (hF _ _ (h.cclab j m d (hc j m d hd)) (by simp))
    marks := h.marks.keeps hk (hF _ _ h.mlab (by simp))
    binds := owns_keeps h.binds hk fun b hb => hF _ _ (h.blab b hb) (by simp)
    kbox := fun i b hb => ⟨(h.kbox i b hb).1, (h.kbox i b hb).2.keeps hk (hF _ _ (h.kbox i b hb).1 (by simp))⟩
    nbox := fun i b hb => ⟨(h.nbox i b hb).1, (h.nbox i b hb).2.keeps hk (hF _ _ (h.nbox i b hb).1 (by simp))⟩ }, ⟨hk.mono fun b _ e => ?_, fun b hb => .inl hb⟩⟩
  · by_cases e : j = k
    · subst e
      refine hm.congr fun m => ?_
      simp only [upd, innF, killS]
      by_cases e : m = n <;> simp [e]
    · refine ((h.inner j hj).keeps hk (hF _ _ (h.ilab j hj) (by simpa using e))).congr fun m => ?_
      simp [innF, killS, e]
  · subst e
    unfold VOf
    rw [hl]
    simp
noncomputable def killC (s : Vs) (n k : Int) : Vs := ⟨fun j => if j = k then decide (∃ m, m ≠ n ∧ s.cells k m ≠ none) else s.has j, (killS s n k).cells, s.marks, s.scope, s.binds⟩
noncomputable def killO (s : Vs) (n : Int) : Int × Vs := if checkO n = 0 then (if s.scope = 0 then (9, s) else (0, killC s n s.scope)) else (8, s)
theorem dropS_none (s : Vs) (k : Int) (h : s.has k = false) (hc : ∀ j m c, s.cells j m = some c → s.has j = true) : dropS s k = s := by
  unfold dropS
  have e1 : (fun j => if j = k then false else s.has j) = s.has := by
    funext j
    by_cases e : j = k <;> simp [e, h]
  have e2 : (fun j m => if j = k then none else s.cells j m) = s.cells := by
    funext j m
    by_cases e : j = k
    · rw [if_pos e, e]
      cases hs : s.cells k m with
      | none => rfl
      | some c => have := hc k m c hs; rw [h] at this; cases this
    · rw [if_neg e]
  rw [e1, e2]
theorem killC_none (s : Vs) (n k : Int) (_hc : ∀ j m c, s.cells j m = some c → s.has j = true) (h : ∀ m, (killS s n k).cells k m = none) : killC s n k = dropS (killS s n k) k := by
  have h1 : ¬ ∃ m, m ≠ n ∧ s.cells k m ≠ none := fun ⟨m, hm, hs⟩ => by
    have := h m
    simp only [killS, hm, and_false, if_false] at this
    exact hs this
  unfold killC dropS
  simp only [Vs.mk.injEq, killS, and_true]
  refine ⟨?_, ?_⟩
  · funext j
    by_cases e : j = k
    · simp only [e, if_true]
      exact decide_eq_false h1
    · simp [e]
  · funext j m
    by_cases e : j = k
    · have := h m
      simp only [killS] at this
      simp only [e, if_true]
      rw [← this]
      simp
      intro ha hb
      exact absurd hb ha
    · simp [e]
theorem killC_some (s : Vs) (n k : Int) (hh : s.has k = true) (h : ¬ ∀ m, (killS s n k).cells k m = none) : killC s n k = killS s n k := by
  have h1 : ∃ m, m ≠ n ∧ s.cells k m ≠ none := by
    refine Classical.byContradiction fun hno => h fun m => ?_
    simp only [killS]
    by_cases e : m = n
    · simp [e]
    · simp only [e, and_false, if_false]
      exact Classical.byContradiction fun hs => hno ⟨m, e, hs⟩
  unfold killC
  have e1 : (fun j => if j = k then decide (∃ m, m ≠ n ∧ s.cells k m ≠ none) else s.has j) = s.has := by
    funext j
    by_cases e : j = k
    · simp only [e, if_true]
      rw [hh]
      exact decide_eq_true h1
    · simp [e]
  rw [e1]
  rfl
theorem drewB {w : World} : Below w.heap.size w w.drew := (Below.refl _ _).drew
set_option maxHeartbeats 4000000 in
theorem killLocal_any {w : World} {base vp : Nat} {s : Vs} {lab : Nat → Option VLab} {P : VParts} (h : VsIs w base vp s lab P) (n : Int) (hn : Wf n) : Calls Try.prog 25 #[vptr vp, .int .i64 n] w fun e w' => e = .returned (.int .i64 (killO s n).1) ∧ VsOk w w' base vp (killO s n).2 lab := by
  have HC := Lib.hid (check_any h n)
  have HF := Lib.hid (VsOk.of h (Below.refl _ _))
  obtain ⟨c0, c1, c2, c3⟩ := h.blk.four
  unfold killO
  rcases checkO_cases n with ⟨e, hr⟩ | e
  · rw [e] at HC
    rw [if_pos e]
    have hso := h.sok
    obtain ⟨k, hk⟩ : ∃ k, s.scope = k := ⟨_, rfl⟩
    rw [hk] at c2 hso ⊢
    by_cases h0 : k = 0
    · subst h0
      rw [if_pos rfl]
      clear h e hr hn hk hso
      go_enter Try.func25, Try.ntmps25
      go_wp2_with fail
      refine HC.out.mono ?_
      rintro e w' ⟨rfl, rfl⟩
      go_wp2_with fail
      go_ret
      exact ⟨rfl, HF.out⟩
    · rw [if_neg h0]
      have hz : (k == 0) = false := beq_eq_false_iff_ne.2 h0
      have hwk : Wf k := by unfold Wf; omega
      have h1 := h.below drewB
      have hl := h1.outer.look mapT1 (zero1 w.drew) hwk
      cases hh : s.has k with
      | false =>
        simp only [outF, hh, Bool.false_eq_true, if_false, Option.getD_none] at hl
        have hdn := drop_nil w.drew mapT2 hn 0
        have hln := len_nil w.drew mapT2 3
        have h2 := h1.below drewB
        obtain ⟨w3, hrun, hm3, hg3⟩ := h2.outer.drop mapT1 (x := k) hwk 0
        obtain ⟨h3, hA3⟩ := h2.dropped k (keeps_grown hg3) hm3
        have he : dropS s k = killC s n k := by
          rw [killC_none s n k h.chas fun m => by
            simp only [killS]
            split
            · rfl
            · cases hs : s.cells k m with
              | none => rfl
              | some c => have := h.chas k m c hs; rw [hh] at this; cases this]
          have hks : killS s n k = s := by
            unfold killS
            have e2 : (fun j m => if j = k ∧ m = n then none else s.cells j m) = s.cells := by
              funext j m
              split
              · rename_i hjm
                rw [hjm.1]
                cases hs : s.cells k m with
                | none => rfl
                | some c => have := h.chas k m c hs; rw [hh] at this; cases this
              · rfl
            rw [e2]
          rw [hks]
        rw [he] at h3
        have HF3 := Lib.hid (show VsOk w w3 base vp (killC s n k) lab from ⟨lab, P, h3, (VAfter.below (show Below w.heap.size w w.drew.drew from (Below.refl _ _).drew.drew)).trans hA3⟩)
        clear h e hr hn hk hso h0 hwk h1 h2 hm3 hg3 h3 hA3 he hh HF
        go_enter Try.func25, Try.ntmps25
        go_wp2_with fail
        refine HC.out.mono ?_
        rintro e w' ⟨rfl, rfl⟩
        go_wp2_with fail
        go_region
        all_goals (
          go_wp2_with fail
          go_region)
        all_goals (
          go_wp2_with fail
          go_ret
          exact ⟨rfl, HF3.out⟩)
      | true =>
        simp only [outF, hh, if_true, Option.getD_some] at hl
        obtain ⟨w2, hrun2, hm2, hg2⟩ := (h1.inner k hh).drop mapT2 (x := n) hn 0
        obtain ⟨h2, hA2⟩ := h1.killed n k hh (keeps_grown hg2) hm2
        obtain ⟨m, hlen, hmz, hmm⟩ := (h2.inner k hh).count mapT2 3
        obtain ⟨d0, d1, d2, d3⟩ := h2.blk.four
        rw [show (killS s n k).scope = k from hk] at d2
        by_cases hm0 : m = 0
        · subst hm0
          have hnone : ∀ j, (killS s n k).cells k j = none := fun j => by
            have := hmz.1 rfl j
            simpa [innF] using this
          have h3 := h2.below drewB
          obtain ⟨w3, hrun3, hm3, hg3⟩ := h3.outer.drop mapT1 (x := k) hwk 0
          obtain ⟨h4, hA4⟩ := h3.dropped k (keeps_grown hg3) hm3
          rw [← killC_none s n k h.chas hnone] at h4
          have HF3 := Lib.hid (show VsOk w w3 base vp (killC s n k) lab from ⟨lab, P, h4, (((VAfter.below drewB).trans hA2).trans (VAfter.below drewB)).trans hA4⟩)
          clear h e hr hn hk hso h0 hwk h1 h2 hm3 hg3 h3 hA2 hh HF hm2 hg2 hmz hmm hnone h4 hA4
          go_enter Try.func25, Try.ntmps25
          go_wp2_with fail
          refine HC.out.mono ?_
          rintro e w' ⟨rfl, rfl⟩
          go_wp2_with fail
          go_region
          all_goals (
            go_wp2_with fail
            go_region)
          all_goals (
            go_wp2_with fail
            go_ret
            exact ⟨rfl, HF3.out⟩)
        · have hsome : ¬ ∀ j, (killS s n k).cells k j = none := fun hall => hm0 (hmz.2 fun j => by simp [innF, hall j])
          rw [← killC_some s n k hh hsome] at h2
          have HF3 := Lib.hid (show VsOk w w2 base vp (killC s n k) lab from ⟨lab, P, h2, (VAfter.below drewB).trans hA2⟩)
          have hm1 : ((m : Int) == 0) = false := beq_eq_false_iff_ne.2 (by omega)
          have hm2' : (m == 0) = false := beq_eq_false_iff_ne.2 hm0
          clear h e hr hn hk hso h0 hwk h1 h2 hA2 hh HF hm2 hg2 hmz hmm hsome hm0
          go_enter Try.func25, Try.ntmps25
          go_wp2_with fail
          refine HC.out.mono ?_
          rintro e w' ⟨rfl, rfl⟩
          go_wp2_with fail
          go_region
          all_goals (
            go_wp2_with fail
            go_ret
            exact ⟨rfl, HF3.out⟩)
  · rw [e] at HC
    rw [if_neg (by omega)]
    clear h e hn
    go_enter Try.func25, Try.ntmps25
    go_wp2_with fail
    refine HC.out.mono ?_
    rintro e w' ⟨rfl, rfl⟩
    go_wp2_with fail
    go_ret
    exact ⟨rfl, HF.out⟩
end Go.Proofs.Ytkbdonecbepfnaa.Vs
