/- The contracts of addMarks, MarkSpecial, MarkConst and New. -/
import Derived.Test.YtkbdonecbepfnaaVsCalls2
namespace Go.Proofs.Ytkbdonecbepfnaa.Vs
open Go.RowKit Go.Maps Go.Lib
open Go.Proofs.Ytkbdonecbepfnaa.Own
set_option maxRecDepth 100000

/-- A mark is laid. -/
theorem VsIs.mark {w w' : World} {base vp : Nat} {s : Vs} {lab : Nat → Option VLab} {P : VParts} (h : VsIs w base vp s lab P) (n v : Int) (hv : v = 1 ∨ v = 2 ∨ v = 3) (hk : Keeps (fun b => b = P.mb) w w') (hm : MapOf w' P.mb (upd (mkF s) n (some (.int .u8 v)))) :
    VsIs w' base vp ⟨s.has, s.cells, fun j => if j = n then some v else s.marks j, s.scope, s.binds⟩ lab P ∧ VAfter w w' lab lab := by
  have hl := h.mlab
  have hF : ∀ b l, lab b = some l → l ≠ .marks → ¬ (b = P.mb) := fun b l hx hne e => by
    rw [e, hl] at hx
    cases hx
    exact hne rfl
  refine ⟨{ h with
    inb := fun b l hb => ⟨(h.inb b l hb).1, Nat.lt_of_lt_of_le (h.inb b l hb).2 hk.size⟩
    blk := h.blk.keeps hk (hF _ _ h.hdr (by simp))
    outer := h.outer.keeps hk (hF _ _ h.clab (by simp))
    inner := fun j hj => (h.inner j hj).keeps hk (hF _ _ (h.ilab j hj) (by simp))
    cell := fun j m d hd => (h.cell j m d hd).keeps hk (hF _ _ (h.cclab j m d hd) (by simp))
    marks := hm.congr fun j => ?_
    mok := fun j u hu => ?_
    binds := owns_keeps h.binds hk fun b hb => hF _ _ (h.blab b hb) (by simp)
    kbox := fun i b hb => ⟨(h.kbox i b hb).1, (h.kbox i b hb).2.keeps hk (hF _ _ (h.kbox i b hb).1 (by simp))⟩
    nbox := fun i b hb => ⟨(h.nbox i b hb).1, (h.nbox i b hb).2.keeps hk (hF _ _ (h.nbox i b hb).1 (by simp))⟩ }, ⟨hk.mono fun b _ e => ?_, fun b hb => .inl hb⟩⟩
  · simp only [upd, mkF]
    by_cases e : j = n <;> simp [e]
  · by_cases e : j = n
    · simp [e] at hu
      omega
    · exact h.mok j u (by simpa [e] using hu)
  · subst e
    unfold VOf
    rw [hl]
    simp
def orM (v m : Int) : Int := if m = 1 then (if v = 0 ∨ v = 1 then 1 else 3) else 3
def markO (s : Vs) (n m : Int) : Int × Vs := if 0 ≤ n ∧ n < 16384 then (0, ⟨s.has, s.cells, fun j => if j = n then some (orM ((s.marks n).getD 0) m) else s.marks j, s.scope, s.binds⟩) else (8, s)
set_option maxHeartbeats 1000000 in
theorem addMarks_any {w : World} {base vp : Nat} {s : Vs} {lab : Nat → Option VLab} {P : VParts} (h : VsIs w base vp s lab P) (n m : Int) (hn : Wf n) (hm : m = 1 ∨ m = 3) :
    Calls Try.prog 52 #[vptr vp, .int .i64 n, .int .u8 m] w fun e w' => e = .returned (.int .i64 (markO s n m).1) ∧ VsOk w w' base vp (markO s n m).2 lab := by
  have HC := Lib.hid (check_any h n)
  unfold markO
  rcases checkO_cases n with ⟨e, hr⟩ | e
  · rw [e] at HC
    rw [if_pos hr]
    obtain ⟨c0, c1, c2, c3⟩ := h.blk.four
    have hl := h.marks.look mapT3 (zero3 w) hn
    obtain ⟨v, hv, hv4⟩ : ∃ v, (s.marks n).getD 0 = v ∧ (v = 0 ∨ v = 1 ∨ v = 2 ∨ v = 3) := by
      refine ⟨_, rfl, ?_⟩
      cases hs : s.marks n with
      | none => exact .inl rfl
      | some u => exact .inr (h.mok n u hs)
    have hlv : (mkF s n).getD (.int .u8 0) = .int .u8 v := by
      rw [← hv]
      cases hs : s.marks n <;> simp [mkF, hs]
    rw [hlv] at hl
    have ho : orM v m = 1 ∨ orM v m = 2 ∨ orM v m = 3 := by
      unfold orM
      split
      · split <;> omega
      · omega
    rw [hv]
    obtain ⟨w2, hrun, hm2, hg2⟩ := h.marks.store mapT3 (x := n) (by omega) (.int .u8 (orM v m))
    obtain ⟨hI, hA⟩ := h.mark n (orM v m) ho (keeps_grown hg2) hm2
    have HF := Lib.hid (show VsOk w w2 base vp ⟨s.has, s.cells, fun j => if j = n then some (orM v m) else s.marks j, s.scope, s.binds⟩ lab from ⟨lab, P, hI, hA⟩)
    have eb : orM v m = bits .or .u8 v m := by rcases hm with rfl | rfl <;> rcases hv4 with rfl | rfl | rfl | rfl <;> rfl
    rw [eb] at hrun
    clear h hv hlv ho hm2 hg2 hI hA hr e hn eb
    rcases hm with rfl | rfl <;> rcases hv4 with rfl | rfl | rfl | rfl
    all_goals
      simp only [orM, if_true, if_false, Int.reduceEq, or_true, or_self, or_false] at HF ⊢
      go_enter Try.func52, Try.ntmps52
      go_wp2_with fail
      refine HC.out.mono ?_
      rintro e w' ⟨rfl, rfl⟩
      go_wp2
      go_ret
      exact ⟨rfl, HF.out⟩
  · rw [e] at HC
    rw [if_neg (fun hr => by rw [show checkO n = 0 from if_pos hr] at e; cases e)]
    have HF := Lib.hid (VsOk.of h (Below.refl _ _))
    clear h e hn hm
    go_enter Try.func52, Try.ntmps52
    go_wp2_with fail
    refine HC.out.mono ?_
    rintro e w' ⟨rfl, rfl⟩
    go_wp2
    go_ret
    exact ⟨rfl, HF.out⟩
theorem markConst_any {w : World} {base vp : Nat} {s : Vs} {lab : Nat → Option VLab} {P : VParts} (h : VsIs w base vp s lab P) (n : Int) (hn : Wf n) :
    Calls Try.prog 29 #[vptr vp, .int .i64 n] w fun e w' => e = .returned (.int .i64 (markO s n 3).1) ∧ VsOk w w' base vp (markO s n 3).2 lab := by
  have HA := Lib.hid (addMarks_any h n 3 hn (.inr rfl))
  clear h hn
  go_enter Try.func29, Try.ntmps29
  go_wp2_with fail
  refine HA.out.mono ?_
  rintro e w' ⟨rfl, hok⟩
  go_wp2_with fail
  go_ret
  exact ⟨rfl, hok⟩
theorem markSpecial_any {w : World} {base vp : Nat} {s : Vs} {lab : Nat → Option VLab} {P : VParts} (h : VsIs w base vp s lab P) (n : Int) (hn : Wf n) :
    Calls Try.prog 34 #[vptr vp, .int .i64 n] w fun e w' => e = .returned (.int .i64 (markO s n 1).1) ∧ VsOk w w' base vp (markO s n 1).2 lab := by
  have HA := Lib.hid (addMarks_any h n 1 hn (.inl rfl))
  clear h hn
  go_enter Try.func34, Try.ntmps34
  go_wp2_with fail
  refine HA.out.mono ?_
  rintro e w' ⟨rfl, hok⟩
  go_wp2_with fail
  go_ret
  exact ⟨rfl, hok⟩

theorem below_three' (w : World) (a b c : Obj) : Below w.heap.size w (((w.alloc a).alloc b).alloc c) := (((Below.refl _ _).alloc (Nat.le_refl _) _).alloc (by simp) _).alloc (by simp; omega) _
/-- Variables of which nothing is known. -/
def s0 : Vs := ⟨fun _ => false, fun _ _ => none, fun _ => none, 0, []⟩
theorem s0_is (w : World) : VsIs (((w.alloc (.map #[] 0)).alloc (.map #[] 0)).alloc (.cells #[.map (some w.heap.size), .map (some (w.heap.size + 1)), .int .i64 0, .slice none 0 0] 56)) w.heap.size (w.heap.size + 1 + 1) s0
    (fun b => if b = w.heap.size then some .outer else if b = w.heap.size + 1 then some .marks else if b = w.heap.size + 1 + 1 then some .hdr else none) ⟨w.heap.size, w.heap.size + 1, fun _ => 0, fun _ _ => 0, .slice none 0 0, fun _ => (0, 0)⟩ := by
  have h1 : MapOf (w.alloc (.map #[] 0)) w.heap.size (fun _ => none) := MapOf.made w
  have h2 : MapOf ((w.alloc (.map #[] 0)).alloc (.map #[] 0)) (w.heap.size + 1) (fun _ => none) := by
    have := MapOf.made (w.alloc (.map #[] 0))
    simpa using this
  have hb : ∀ (w : World) o, Below w.heap.size w (w.alloc o) := fun w o => (Below.refl _ _).alloc (Nat.le_refl _) o
  exact {
    inb := fun b l hb => by
      have hs : (((w.alloc (.map #[] 0)).alloc (.map #[] 0)).alloc (.cells #[.map (some w.heap.size), .map (some (w.heap.size + 1)), .int .i64 0, .slice none 0 0] 56)).heap.size = w.heap.size + 1 + 1 + 1 := by simp
      rw [hs]
      split at hb
      · omega
      · split at hb
        · omega
        · split at hb
          · omega
          · cases hb
    hdr := by simp; omega
    blk := by
      have := Blk.new ((w.alloc (.map #[] 0)).alloc (.map #[] 0)) #[.map (some w.heap.size), .map (some (w.heap.size + 1)), .int .i64 0, .slice none 0 0] 56
      rw [show ((w.alloc (.map #[] 0)).alloc (.map #[] 0)).heap.size = w.heap.size + 1 + 1 by simp] at this
      exact this
    clab := if_pos rfl
    mlab := by simp
    outer := ((h1.below (hb _ _)).below (hb _ _)).congr fun _ => rfl
    ilab := fun _ h => by cases h
    inner := fun _ h => by cases h
    chas := fun _ _ _ h => by cases h
    cclab := fun _ _ _ h => by cases h
    cell := fun _ _ _ h => by cases h
    marks := (h2.below (hb _ _)).congr fun _ => rfl
    mok := fun _ _ h => by cases h
    binds := World.ownsRow_nil _ _ _ _
    blab := fun _ h => by cases h
    kbox := fun _ _ h => by simp [s0] at h
    nbox := fun _ _ h => by simp [s0] at h
    bok := fun _ h => by simp [s0] at h
    sok := by simp [s0]
    many := by simp [s0] }
/-- New variables behind the first rounds of New's loop. -/
def newS : Nat → Vs
  | 0 => s0
  | k + 1 => (markO (setDefaultO (newS k) k (1, k)).2 k 3).2
/-- New variables. -/
def sN : Vs := newS 2
set_option maxHeartbeats 1000000 in
theorem new_any (w : World) : Calls Try.prog 8 #[] w fun e w' => e = .returned (vptr (w.heap.size + 1 + 1)) ∧ Below w.heap.size w w' ∧ ∃ lab P, VsIs w' w.heap.size (w.heap.size + 1 + 1) sN lab P := by
  have h0 := s0_is w
  have hB0 := below_three' w (.map #[] 0) (.map #[] 0) (.cells #[.map (some w.heap.size), .map (some (w.heap.size + 1)), .int .i64 0, .slice none 0 0] 56)
  obtain ⟨bs, hbs⟩ : ∃ bs, bs = w.heap.size := ⟨_, rfl⟩
  have hmm := @run_makeMap Try.prog
  have H0 := Lib.hid h0
  have HB0 := Lib.hid hB0
  clear h0 hB0 hbs bs
  go_enter Try.func8, Try.ntmps8
  go_wp2
  go_loopw [9] (fun i wr => ∃ k : Nat, k ≤ 2 ∧ i = .int .i64 (k : Int) ∧ Below w.heap.size w wr ∧ ∃ lab P, VsIs wr w.heap.size (w.heap.size + 1 + 1) (newS k) lab P) (fun i _ => 2 - (intOf i).toNat)
  case atStart => exact ⟨0, by omega, rfl, HB0.out, _, _, H0.out⟩
  case round =>
    obtain ⟨k, hk, rfl, hb, lab, P, hI⟩ := hrel
    by_cases hlt : k < 2
    · have hk2 : k = 0 ∨ k = 1 := by omega
      rcases hk2 with rfl | rfl
      · have HS := Lib.hid (setDefault_any hI hb.size 0 (1, 0) (by unfold Wf; omega))
        have HB := Lib.hid hb
        have HI := Lib.hid hI
        have hix : ∀ w, (Instr.index 57 (.agg #[.int .i64 0, .int .i64 1]) (.int .i64 0)).run Try.prog w = .ok (.int .i64 0) w := fun _ => by kernel_rfl
        clear hb hI hlt hk
        go_wp2_with fail
        refine HS.out.mono ?_
        rintro e w1 ⟨rfl, lab1, P1, hI1, hA1⟩
        have HM := Lib.hid (markConst_any hI1 0 (by unfold Wf; omega))
        have HI1 := Lib.hid hI1
        have HB1 := Lib.hid (VAfter.bel HI.out HB.out.size hA1)
        clear hI1 hA1
        go_wp2_with fail
        refine HM.out.mono ?_
        rintro e w2 ⟨rfl, lab2, P2, hI2, hA2⟩
        have HI2 := Lib.hid hI2
        have HB2 := Lib.hid ((HB.out.trans HB1.out).trans (VAfter.bel HI1.out (HB.out.trans HB1.out).size hA2))
        clear hI2 hA2
        go_wp2_with fail
        go_roundw
        case rel => exact ⟨1, by omega, rfl, HB2.out, _, _, HI2.out⟩
        case measure => simp [intOf]
      · have HS := Lib.hid (setDefault_any hI hb.size 1 (1, 1) (by unfold Wf; omega))
        have HB := Lib.hid hb
        have HI := Lib.hid hI
        have hix : ∀ w, (Instr.index 57 (.agg #[.int .i64 0, .int .i64 1]) (.int .i64 1)).run Try.prog w = .ok (.int .i64 1) w := fun _ => by kernel_rfl
        clear hb hI hlt hk
        go_wp2_with fail
        refine HS.out.mono ?_
        rintro e w1 ⟨rfl, lab1, P1, hI1, hA1⟩
        have HM := Lib.hid (markConst_any hI1 1 (by unfold Wf; omega))
        have HI1 := Lib.hid hI1
        have HB1 := Lib.hid (VAfter.bel HI.out HB.out.size hA1)
        clear hI1 hA1
        go_wp2_with fail
        refine HM.out.mono ?_
        rintro e w2 ⟨rfl, lab2, P2, hI2, hA2⟩
        have HI2 := Lib.hid hI2
        have HB2 := Lib.hid ((HB.out.trans HB1.out).trans (VAfter.bel HI1.out (HB.out.trans HB1.out).size hA2))
        clear hI2 hA2
        go_wp2_with fail
        go_roundw
        case rel => exact ⟨2, by omega, rfl, HB2.out, _, _, HI2.out⟩
        case measure => simp [intOf]
    · obtain rfl : k = 2 := by omega
      clear hlt hk
      have HB := Lib.hid hb
      have HI := Lib.hid hI
      clear hb hI
      go_wp2_with fail
      go_ret
      exact ⟨rfl, HB.out, _, _, HI.out⟩
end Go.Proofs.Ytkbdonecbepfnaa.Vs
