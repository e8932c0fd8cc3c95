/- The contract of Copy. -/
import Derived.Test.YtkbdonecbepfnaaVsCopied
import Derived.Deep.RegionHeld3
namespace Go.Proofs.Ytkbdonecbepfnaa.Vs
open Go.RowKit Go.Maps Go.Lib
open Go.Proofs.Ytkbdonecbepfnaa.Own
set_option maxRecDepth 100000

theorem bcells_one (l : List Bd) (bx : Nat → Nat × Nat) (k : Nat) : ∀ u ∈ bcells l bx k, u.oneCell' = true := by
  induction l generalizing k with
  | nil => intro u hu; simp [bcells] at hu
  | cons b l ih =>
    intro u hu
    rw [bcells, List.mem_append] at hu
    rcases hu with hu | hu
    · exact bdCells_one _ _ u hu
    · exact ih (k + 1) u hu
/-- Behind the region that makes the copy. -/
def CopyMade (w : World) (base vp : Nat) (s : Vs) (bx : Nat → Nat × Nat) : Exit → Act → World → Prop
  | .normal, a, w' => ∃ (op : Nat) (u11 u12 u13 u14 u15 u16 u17 u18 u19 u20 u21 u22 u23 u24 u25 u26 u27 : Value), a = { tmps := #[vptr vp, undef, .pointer none, ptr op, undef, undef, undef, undef, vptr vp, .bool true, .bool false, u11, u12, u13, u14, u15, u16, u17, u18, u19, u20, u21, u22, u23, u24, u25, u26, u27, undef, undef, undef, undef, undef, undef, undef, undef, undef, undef, undef, undef, undef, undef, undef, undef, undef, undef, undef, undef, undef, undef, undef, undef, undef], defers := [] } ∧ CopySt w w' base op s bx (fun _ _ => none)
  | _, _, _ => False

set_option maxHeartbeats 3000000 in
theorem copy_any {w : World} {base vp : Nat} {s : Vs} {lab : Nat → Option VLab} {P : VParts} (h : VsIs w base vp s lab P) (hb : base ≤ w.heap.size) :
    Calls Try.prog 10 #[vptr vp] w fun e w' => ∃ op, e = .returned (vptr op) ∧ CopySt w w' base op s P.bx s.cells := by
  have HV := Lib.hid h.valid
  obtain ⟨c0, c1, c2, c3⟩ := h.blk.four
  have n1 := more c1
  have n2 := more c2
  have n3 := more c3
  have HI := Lib.hid h
  have HB := Lib.hid hb
  have HM := Lib.hid (fun W (hW : Below w.heap.size w W) => cloneM_any (h.marks.below hW))
  have HC := Lib.hid (fun W (hW : Below w.heap.size w W) => cloneB_any (owns_below h.binds hW) (bcells_one s.binds P.bx 0) (by have := h.many; omega))
  have HCe := Lib.hid (fun W (hW : Below w.heap.size w W) => (⟨(hW.cell (p := ⟨vp, 1, none⟩) h.blk.lt).trans c1, (hW.cell (p := ⟨vp, 2, none⟩) h.blk.lt).trans c2, (hW.cell (p := ⟨vp, 3, none⟩) h.blk.lt).trans c3⟩ : W.cell? ⟨vp, 1, none⟩ = _ ∧ W.cell? ⟨vp, 2, none⟩ = _ ∧ W.cell? ⟨vp, 3, none⟩ = _))
  have hmm := @run_makeMap Try.prog
  have hmx : Try.prog.follows .mixedOrders = true := by kernel_rfl
  clear h hb
  go_enter Try.func10, Try.ntmps10
  go_wp2_with fail
  refine HV.out.mono ?_
  rintro e w' ⟨rfl, rfl⟩
  go_wp2_with fail
  refine wp_mono (Q := CopyMade w base vp s P.bx) ?_ ?_
  · have HBx := Lib.hid (Below.refl w.heap.size w)
    have k0 := HCe.out _ (Below.refl _ _)
    go_region_held3 (fun w' => w'.cell? ⟨vp, 1, none⟩ = some (.map (some P.mb)) ∧ w'.cell? ⟨vp, 2, none⟩ = some (.int .i64 s.scope) ∧ w'.cell? ⟨vp, 3, none⟩ = some P.bv)
      (first | exact HCe.out _ HBx.out | exact HCe.out _ HBx.out.drew | exact HCe.out _ (HBx.out.alloc HBx.out.size _) | exact HCe.out _ (HBx.out.alloc HBx.out.size _).drew | exact HCe.out _ ((HBx.out.alloc HBx.out.size _).alloc (by have := HBx.out.size; simp <;> omega) _))
      (first
        | (go_at_call 36; refine (HM.out _ (by first | exact HBx.out | exact HBx.out.drew | exact HBx.out.alloc HBx.out.size _ | exact (HBx.out.alloc HBx.out.size _).drew)).mono ?_; rintro e w5 ⟨rfl, hm5, hb5, hs5⟩; have HB5 : Hid (Below w.heap.size w w5) := Lib.hid (by first | exact HBx.out.trans (hb5.mono HBx.out.size) | exact HBx.out.drew.trans (hb5.mono HBx.out.size) | exact (HBx.out.alloc HBx.out.size _).trans (hb5.mono (by have := HBx.out.size; simp <;> omega)) | exact (HBx.out.alloc HBx.out.size _).drew.trans (hb5.mono (by have := HBx.out.size; simp <;> omega))); have HBx : Hid (Below w.heap.size w w5) := HB5; have HM5 := Lib.hid hm5; have HP5 := Lib.hid hb5; clear hm5 hb5 hs5)
        | (go_at_call 37; refine (HC.out _ (by first | exact HBx.out | exact HBx.out.drew | exact HBx.out.alloc HBx.out.size _ | exact (HBx.out.alloc HBx.out.size _).drew)).mono ?_; rintro e w6 ⟨v6, rfl, hr6, hb6⟩; obtain ⟨A6, k6, rfl⟩ := slice_of' hr6; have HB6 : Hid (Below w.heap.size w w6) := Lib.hid (by first | exact HBx.out.trans (hb6.mono HBx.out.size) | exact HBx.out.drew.trans (hb6.mono HBx.out.size) | exact (HBx.out.alloc HBx.out.size _).trans (hb6.mono (by have := HBx.out.size; simp <;> omega)) | exact (HBx.out.alloc HBx.out.size _).drew.trans (hb6.mono (by have := HBx.out.size; simp <;> omega))); have HBx : Hid (Below w.heap.size w w6) := HB6; have HR6 := Lib.hid hr6; have HP6 := Lib.hid hb6; clear hr6 hb6))
    all_goals (
      refine ⟨_, _, _, _, _, _, _, _, _, _, _, _, _, _, _, _, _, _, rfl, ?_⟩
      have hm5l := HM5.out.lt
      have hs5 := HB5.out.size
      have hs6 := HP6.out.size
      first
        | exact copy_made HI.out HB.out HB6.out _ _ _ (((show MapOf ((w.alloc (.map #[] 0)).drew) w.heap.size (fun _ => none) from MapOf.made w).below HP5.out).below HP6.out) (by simpa using HM5.out.below HP6.out) (owns_base HR6.out (by omega)) (Nat.le_refl _) (Nat.le_succ _) (by omega) _ rfl
        | exact copy_made HI.out HB.out HB6.out _ _ _ ((MapOf.made w5).below HP6.out) ((HM5.out.below ((Below.refl _ _).alloc (Nat.le_refl _) _)).below HP6.out) (owns_base HR6.out (by simp; omega)) hs5 (Nat.le_refl _) (by omega) _ rfl
        | exact copy_made HI.out HB.out (HB6.out.alloc HB6.out.size _) _ _ _ (MapOf.made w6) ((HM5.out.below HP6.out).below ((Below.refl _ _).alloc (Nat.le_refl _) _)) (owns_below (owns_base HR6.out (by omega)) ((Below.refl _ _).alloc (Nat.le_refl _) _)) (by omega) (Nat.le_refl _) (by omega) _ (by simp))
  · intro e a w1 hq
    cases e <;> try exact hq.elim
    obtain ⟨op, u11, u12, u13, u14, u15, u16, u17, u18, u19, u20, u21, u22, u23, u24, u25, u26, u27, rfl, hcs⟩ := hq
    have HCS := Lib.hid hcs
    obtain ⟨d0, d1, d2, d3⟩ := (HI.out.below hcs.below).blk.four
    obtain ⟨D, hD, hhas, hat, hrng⟩ := (HI.out.below hcs.below).outer.opened
    have HD := Lib.hid hD
    have HH := Lib.hid hhas
    have HAt := Lib.hid hat
    have HRg := Lib.hid hrng
    have hC0 : (fun _ _ => none : Int → Int → Option Cl) = yet s (has D) := by
      funext k n
      unfold yet
      rw [hhas k]
      by_cases e : s.has k = true
      · simp [outF, e]
      · cases hx : s.cells k n with
        | none => simp
        | some c => exact absurd (HI.out.chas k n c hx) e
    rw [hC0] at hcs
    have hcs1 := hcs
    have HSz := Lib.hid hcs.below.size
    clear hcs HCS hC0 hD hhas hat hrng c0 c1 c2 c3 n1 n2 n3 HM HC HCe
    go_wp2_with (at_range; refine wpList_range_own _ rfl (.tmp 31) 52 rfl 3 66 law mapT1 heldR P.cb (size D) D rfl HD.out ?_; intro w2 hrg2 hg2 hs2)
    go_frame
    obtain ⟨r, hr⟩ : ∃ r, w1.heap.size = r := ⟨_, rfl⟩
    rw [hr] at hrg2 ⊢
    have HRr := Lib.hid (show w.heap.size ≤ r by rw [← hr]; exact HSz.out)
    have hcs2 := hcs1.later (Below.grown (Below.refl _ _) hg2 (Nat.le_refl _) (fun j hj => by cases hj))
    clear hcs1 hg2 hs2 hr d0 d1 d2 d3 HD HSz
    go_loopw [] (fun wr => ∃ left cnt, Hid (wr.ranges Try.prog 3 heldR P.cb r (size D) D left cnt) ∧ Hid (CopySt w wr base op s P.bx (yet s left))) (fun wr => wr.rangeLeft P.cb r)
    case atStart => exact ⟨_, _, hrg2, hcs2⟩
    case round =>
      obtain ⟨left, cnt, HRG, HCW⟩ := hrel
      go_wp2_with (at_next; refine wpList_next_ranges _ rfl (.tmp 32) rfl 3 law heldR (Value.int .i64) (fun v : Value => v) (fun key kl hk => by obtain ⟨z, hz, _⟩ := ki_inv hk; exact ⟨z, hz⟩) (fun v y _ => ⟨v, rfl⟩) P.cb r (size D) D left cnt rfl HRG.out ?_ ?_)
      · intro hc0 hl0
        have hfin : yet s left = s.cells := by
          funext k n
          simp [yet, hl0]
        have hE := HCW.out
        rw [hfin] at hE
        go_wp2_with fail
        go_ret
        exact ⟨op, rfl, hE⟩
      · intro x c kl yd yp w3 cnt3 hkey hlk hv hatk hrg3 hlt hg3 hs3 hen
        obtain ⟨z, ez, rfl⟩ := ki_inv hkey
        obtain rfl : x = z := by simpa using ez
        simp only [heldR, Option.some.injEq, Prod.mk.injEq] at hv
        obtain ⟨rfl, _⟩ := hv
        have hF := held_at HAt.out hatk
        have hx := HRg.out x (by rw [hF]; rfl)
        obtain ⟨hh, rfl⟩ : s.has x = true ∧ c = .map (some (P.im x)) := by
          simp only [outF] at hF
          by_cases e : s.has x = true
          · rw [if_pos e] at hF
            exact ⟨e, by simpa using hF.symm⟩
          · rw [if_neg e] at hF
            cases hF
        have hcw3 := HCW.out.next HRG.out HRr.out hg3
        have hv3 := HI.out.below hcw3.below
        obtain ⟨D2, hD2, hhas2, hat2, hrng2⟩ := (hv3.inner x hh).opened
        have HD2 := Lib.hid hD2
        have HAt2 := Lib.hid hat2
        have HRg2 := Lib.hid hrng2
        have hst := yetIn_start (s := s) (L := left) (M := has D2) (x := x) hlk (fun n => by rw [hhas2 n]; simp [innF])
        rw [← hst] at hcw3
        have HC3 := Lib.hid hcw3
        have HG3 := Lib.hid hrg3
        have HX := Lib.hid hx
        have HIm := Lib.hid (HI.out.inner x hh).lt
        have HCb := Lib.hid HI.out.outer.lt
        have HRr2 := Lib.hid hcw3.below.size
        have HHh := Lib.hid hh
        have HLt := Lib.hid hlt
        have HR3 := Lib.hid hrg3.lt
        clear hcw3 hv3 hD2 hhas2 hat2 hrng2 hst hx hF hh hlk hatk hkey ez hrg3 hlt hg3 hs3
        go_wp2_with (at_range; refine wpList_range_own _ rfl (.tmp 38) 66 rfl 3 67 law mapT2 heldR (P.im x) (size D2) D2 rfl HD2.out ?_; intro w4 hrg4 hg4 hs4)
        go_frame
        obtain ⟨r2, hr2⟩ : ∃ r2, w3.heap.size = r2 := ⟨_, rfl⟩
        have hb4 : Below w3.heap.size w3 w4 := Below.grown (Below.refl _ _) hg4 (Nat.le_refl _) (fun j hj => by cases hj)
        have hcs4 := HC3.out.later hb4
        have hrg3' := ranges_keeps (G := fun _ => False) HG3.out (.of_below hb4) id id
        rw [hr2] at hrg4 HRr2 HR3 ⊢
        clear hb4 hg4 hs4 hr2 hen
        go_loopw [] (fun wr => ∃ left2 cnt2, Hid (wr.ranges Try.prog 3 heldR (P.im x) r2 (size D2) D2 left2 cnt2) ∧ Hid (wr.ranges Try.prog 3 heldR P.cb r (size D) D (fun z => left z && !z.sameKey (ki x)) cnt3) ∧ Hid (CopySt w wr base op s P.bx (yetIn s (fun z => left z && !z.sameKey (ki x)) left2 x))) (fun wr => wr.rangeLeft (P.im x) r2)
        case atStart => exact ⟨_, _, hrg4, hrg3', hcs4⟩
        case round =>
          obtain ⟨left2, cnt2, HR2, HR1, HCW2⟩ := hrel
          go_wp2_with (at_next; refine wpList_next_ranges _ rfl (.tmp 39) rfl 3 law heldR (Value.int .i64) (fun v : Value => v) (fun key kl hk => by obtain ⟨z, hz, _⟩ := ki_inv hk; exact ⟨z, hz⟩) (fun v y _ => ⟨v, rfl⟩) (P.im x) r2 (size D2) D2 left2 cnt2 rfl HR2.out ?_ ?_)
          · intro hc0 hl0
            have hE := HCW2.out
            rw [yetIn_end hl0] at hE
            go_wp2_with fail
            go_roundw
            case rel => exact ⟨_, cnt3, HR1.out, hE⟩
            case measure => rw [HR1.out.left_eq, HRG.out.left_eq]; exact HLt.out
          · intro y c kl yd yp w5 cnt5 hkey hlk hv hatk hrg5 hlt hg5 hs5 hen
            obtain ⟨z, ez, rfl⟩ := ki_inv hkey
            obtain rfl : y = z := by simpa using ez
            simp only [heldR, Option.some.injEq, Prod.mk.injEq] at hv
            obtain ⟨rfl, _⟩ := hv
            have hF := held_at HAt2.out hatk
            obtain ⟨cl, hcl, rfl⟩ : ∃ cl, s.cells x y = some cl ∧ c = ptr (P.cl x y) := by
              simp only [innF] at hF
              cases e : s.cells x y with
              | none => rw [e] at hF; cases hF
              | some cl => rw [e] at hF; exact ⟨cl, rfl, by simpa using hF.symm⟩
            have hcw5 := HCW2.out.next HR2.out HRr2.out hg5
            have hbk := (HI.out.below hcw5.below).cell x y cl hcl
            have k0 := hbk.cell 0 _ rfl
            have k1 := hbk.cell 1 _ rfl
            have k2 := hbk.cell 2 _ rfl
            have hrg1 := ranges_keeps HR1.out (keeps_grown hg5) (fun e => by have := HCb.out; have := HRr2.out; omega) (fun e => by have := HR3.out; omega)
            have hny := HRg2.out y (by rw [hF]; rfl)
            have HS := Lib.hid (copy_store hcw5 HB.out hrg1 hrg5 HCb.out HIm.out y x cl hny HX.out)
            rw [yetIn_step hcl] at HS
            have HLt5 := Lib.hid hlt
            clear hkey hlk hatk ez hF hcl hcw5 hbk hrg1 hrg5 hg5 hs5 hlt hny
            go_wp2_with fail
            refine HS.out.mono ?_
            rintro e w6 ⟨rfl, hcs6, h61, h62⟩
            have HC6 := Lib.hid hcs6
            have H61 := Lib.hid h61
            have H62 := Lib.hid h62
            clear hcs6 h61 h62 HS
            go_wp2_with fail
            go_roundw
            case rel => exact ⟨_, cnt5, H62.out, H61.out, HC6.out⟩
            case measure => rw [H62.out.left_eq, HR2.out.left_eq]; exact HLt5.out
end Go.Proofs.Ytkbdonecbepfnaa.Vs
