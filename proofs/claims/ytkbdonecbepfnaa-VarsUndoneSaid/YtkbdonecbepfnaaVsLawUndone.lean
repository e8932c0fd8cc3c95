/- The walk of VarsUndone. -/
import Derived.Test.YtkbdonecbepfnaaVsTri
import Derived.Test.YtkbdonecbepfnaaVsDo
import Derived.Test.YtkbdonecbepfnaaVsUndEnd
import Derived.Test.YtkbdonecbepfnaaVsLives
import Derived.Test.YtkbdonecbepfnaaVsCopy
import Derived.BigGuardPart
import Derived.Deep.RegionHeld3
namespace Go.Proofs.Ytkbdonecbepfnaa.Vs
open Go.RowKit Go.Maps Go.Lib
open Go.Proofs.Ytkbdonecbepfnaa.Own
set_option maxRecDepth 100000

/-- Between two acts of the first list. -/
def Run1 (w wr : World) (base vp : Nat) : Prop := ∃ s lab P, VsIs wr base vp s lab P ∧ Good s ∧ Below base w wr
theorem ActsR.at {W : World} {A : Option Addr} {n c : Nat} {l : List Ac} (h : ActsR W (.slice A n c) l) {j : Nat} {a : Ac} (ha : l[j]? = some a) : ∃ g off, A = some ⟨g, off, none⟩ ∧ ActAt W g (off + j * 5) a := by
  obtain ⟨A', cap, hv, hr⟩ := h
  cases hv
  have hlt : j < l.length := (List.getElem?_eq_some_iff.1 ha).1
  obtain ⟨g, off, hA, hc⟩ := hr (by omega)
  exact ⟨g, off, hA, hc j a ha⟩
theorem ActsR.form {W : World} {v : Value} {l : List Ac} (h : ActsR W v l) : ∃ A c, v = .slice A l.length c := by
  obtain ⟨A, c, hv, _⟩ := h
  exact ⟨A, c, hv⟩
set_option maxHeartbeats 1000000 in
/-- Lists that are too long are not considered. -/
theorem undone_light {w : World} {A0 A1 : Option Addr} {n0 c0 n1 c1 : Nat} (h : 40 < n0 ∨ 40 < n1) (h0 : n0 ≤ 9223372036854775807) (h1 : n1 ≤ 9223372036854775807) :
    Calls Try.prog 3 #[.slice A0 n0 c0, .slice A1 n1 c1] w fun e w' => e = .returned (.bool true) ∧ Below w.heap.size w w' := by
  have HL := Lib.hid (lives_any w)
  by_cases e0 : 40 < n0
  · have hz : (40 : Int) < (n0 : Int) := by omega
    clear h h0 h1
    go_enter Try.func3, Try.ntmps3
    go_wp2_with fail
    refine HL.out.mono ?_
    rintro e w1 ⟨rfl, hb1⟩
    go_wp2_with fail
    go_ret
    exact ⟨rfl, hb1⟩
  · have e1 : 40 < n1 := by omega
    have hz : ¬ (40 : Int) < (n0 : Int) := by omega
    have hz1 : (40 : Int) < (n1 : Int) := by omega
    clear h h0 h1
    go_enter Try.func3, Try.ntmps3
    go_wp2_with fail
    refine HL.out.mono ?_
    rintro e w1 ⟨rfl, hb1⟩
    go_wp2_with fail
    go_ret
    exact ⟨rfl, hb1⟩
/-- Between two acts of the second list. -/
def Run2 (w0 wr : World) (base vp op : Nat) (s0 t : Vs) (j : Nat) (v : Value) : Prop := ∃ s B pr, Tri wr base vp op s t v pr ∧ Good s ∧ Und s0 s B pr ∧ Below base w0 wr ∧ pr.length ≤ j
theorem bindO_scope (s : Vs) (n : Int) (x : Wd) : (bindO s n x).2.scope = s.scope := by
  unfold bindO
  split
  · split <;> rfl
  · rfl
theorem actO_set (s : Vs) (p n k : Int) (x : Wd) (h : p = 0 ∨ p = 1) : ∃ c, actO s p n k x = setO s n c := by
  rcases h with rfl | rfl
  · exact ⟨_, if_pos rfl⟩
  · refine ⟨((0, 0), false), ?_⟩
    unfold actO
    rw [if_neg (by decide), if_pos rfl]
theorem five_cell {b : Nat} (w : World) (n k : Int) (hb : b = w.heap.size) : ∀ j u, [Value.int .i64 0, .int .i64 n, .int .i64 k, .int .i64 0, .int .i64 0][j]? = some u → (w.alloc (.cells #[.int .i64 0, .int .i64 n, .int .i64 k, .int .i64 0, .int .i64 0] 31)).cell? ((⟨b, 0, none⟩ : Addr).add j) = some u := by
  intro j u hj
  subst hb
  have h := Blk.new w #[.int .i64 0, .int .i64 n, .int .i64 k, .int .i64 0, .int .i64 0] 31
  rcases j with _ | _ | _ | _ | _ | j
  · simp at hj; subst hj; exact h.cell 0 _ rfl
  · simp at hj; subst hj; exact h.cell 1 _ rfl
  · simp at hj; subst hj; exact h.cell 2 _ rfl
  · simp at hj; subst hj; exact h.cell 3 _ rfl
  · simp at hj; subst hj; exact h.cell 4 _ rfl
  · simp at hj
theorem five_one (a b : Int) : ∀ u ∈ [Value.int .i64 0, .int .i64 a, .int .i64 b, .int .i64 0, .int .i64 0], u.oneCell' = true := by
  intro u hu
  simp only [List.mem_cons, List.not_mem_nil, or_false] at hu
  rcases hu with rfl | rfl | rfl | rfl | rfl <;> rfl
set_option maxHeartbeats 8000000 in
theorem undone_walk {w : World} {A0 A1 : Option Addr} {c0 c1 : Nat} {l0 l1 : List Ac} (R0 : ActsR w (.slice A0 l0.length c0) l0) (R1 : ActsR w (.slice A1 l1.length c1) l1) (h0 : l0.length ≤ 40) (h1 : l1.length ≤ 40) (F0 : ∀ a ∈ l0, FitsA a) (F1 : ∀ a ∈ l1, FitsA a) :
    Calls Try.prog 3 #[.slice A0 l0.length c0, .slice A1 l1.length c1] w fun e w' => e = .returned (.bool true) ∧ Below w.heap.size w w' := by
  have HL := Lib.hid (lives_any w)
  have HR0 := Lib.hid R0
  have HR1 := Lib.hid R1
  have HF0 := Lib.hid F0
  have HF1 := Lib.hid F1
  obtain ⟨n0, e0⟩ : ∃ n0, l0.length = n0 := ⟨_, rfl⟩
  obtain ⟨n1, e1⟩ : ∃ n1, l1.length = n1 := ⟨_, rfl⟩
  have HE0 := Lib.hid e0
  have HE1 := Lib.hid e1
  rw [e0] at h0 HR0 ⊢
  rw [e1] at h1 HR1 ⊢
  have hz0 : ¬ (40 : Int) < (n0 : Int) := by omega
  have hz1 : ¬ (40 : Int) < (n1 : Int) := by omega
  have hy0 : ¬ 40 < n0 := by omega
  have hy1 : ¬ 40 < n1 := by omega
  clear R0 R1 F0 F1 e0 e1
  go_enter Try.func3, Try.ntmps3
  go_wp2_with fail
  refine HL.out.mono ?_
  rintro e w1 ⟨rfl, hb1⟩
  have HB1 := Lib.hid hb1
  have HN := Lib.hid (new_any w1)
  clear hb1 HL
  go_wp2_with fail
  refine HN.out.mono ?_
  rintro e w2 ⟨rfl, hb2, lab0, P0, hI0⟩
  have HRn := Lib.hid (⟨_, _, _, hI0, sN_good, hb2⟩ : Run1 w1 w2 w1.heap.size (w1.heap.size + 1 + 1))
  obtain ⟨bs, hbs⟩ : ∃ bs, w1.heap.size = bs := ⟨_, rfl⟩
  obtain ⟨vp, hvp⟩ : ∃ vp, bs + 1 + 1 = vp := ⟨_, rfl⟩
  rw [hbs] at HRn ⊢
  rw [hvp] at HRn ⊢
  have HBs := Lib.hid hbs
  clear hI0 hb2 HN hbs hvp
  go_wp2_with fail
  go_loopw [6] (fun i wr => ∃ j : Nat, i = .int .i64 (j : Int) ∧ j ≤ n0 ∧ Hid (Run1 w1 wr bs vp)) (fun i _ => n0 - (intOf i).toNat)
  case atStart => exact ⟨0, rfl, Nat.zero_le _, HRn⟩
  case round =>
    obtain ⟨j, rfl, hj, HRj⟩ := hrel
    by_cases hlt : j < n0
    · have hltz : (j : Int) < (n0 : Int) := by omega
      obtain ⟨s, lab, P, hI, hg, hbw⟩ := HRj.out
      have hbase : bs ≤ wr.heap.size := by have := hbw.size; rw [← HBs.out]; exact this
      obtain ⟨a, ha⟩ : ∃ a, l0[j]? = some a := ⟨_, List.getElem?_eq_getElem (by rw [HE0.out]; exact hlt)⟩
      obtain ⟨g, off, rfl, k0, k1, k2, k3, k4⟩ := ActsR.at (HR0.out.below (HB1.out.trans (hbw.mono (by rw [← HBs.out]; exact HB1.out.size)))) ha
      have hfa := HF0.out a (List.mem_of_getElem? ha)
      have HD := Lib.hid (do_any hI hbase hg a.kd a.n a.k a.x hfa.2.1)
      have HG := Lib.hid (good_act hg (pickZ a.kd 14) a.n a.k a.x)
      have HI := Lib.hid hI
      have HBw := Lib.hid hbw
      have HBa := Lib.hid hbase
      clear hI hg hbw ha hfa hbase HRj
      go_wp2_with fail
      refine HD.out.mono ?_
      rintro e w5 ⟨rfl, lab5, P5, hI5, hA5⟩
      have HR5 := Lib.hid (⟨_, lab5, P5, hI5, HG.out, HBw.out.trans (hA5.bel HI.out HBa.out)⟩ : Run1 w1 w5 bs vp)
      clear hI5 hA5 HD k0 k1 k2 k3 k4
      go_wp2_with fail
      go_roundw
      case rel => exact ⟨j + 1, by go_num, by omega, HR5⟩
      case measure => simp [intOf]; omega
    · obtain rfl : j = n0 := by omega
      have hltz : ¬ ((j : Nat) : Int) < (j : Int) := by omega
      obtain ⟨s, lab, P, hI, hg, hbw⟩ := HRj.out
      have hbase : bs ≤ wr.heap.size := by have := hbw.size; rw [← HBs.out]; exact this
      have HC := Lib.hid (copy_any hI hbase)
      have HI := Lib.hid hI
      have HG := Lib.hid hg
      have HBw := Lib.hid hbw
      have HBa := Lib.hid hbase
      clear hI hg hbw hbase HRj
      go_wp2_with fail
      refine HC.out.mono ?_
      rintro e w3 ⟨op, rfl, hcs⟩
      have HB3 := Lib.hid hcs.below
      obtain ⟨t, htw, t1, t2, t3, t4⟩ := Two.start HI.out hcs
      have HD := Lib.hid (depth_any (HI.out.below hcs.below))
      have HT := Lib.hid htw
      have HAl := Lib.hid (Alike.of_cells t1 t4 t3)
      clear hcs htw t1 t2 t3 t4 HC
      go_wp2_with fail
      refine HD.out.mono ?_
      rintro e w4 ⟨rfl, rfl⟩
      go_wp2_with fail
      have HR2 := Lib.hid (⟨s, [], [], Tri.start HT.out, HG.out, Und.start s, HBw.out.trans (HB3.out.mono HBa.out), Nat.le_refl _⟩ : Run2 w1 w3 bs vp op s t 0 (.slice none 0 0))
      have HSs := Lib.hid HI.out.sok
      clear HD HT HI HG HBw HBa HB3
      go_loopw [9, 10] (fun v i wr => ∃ j : Nat, i = .int .i64 (j : Int) ∧ j ≤ n1 ∧ Hid (Run2 w1 wr bs vp op s t j v)) (fun _ i _ => n1 - (intOf i).toNat)
      case atStart => exact ⟨0, rfl, Nat.zero_le _, HR2⟩
      case round =>
        obtain ⟨j2, rfl, hj2, HRj2⟩ := hrel
        clear HR2
        obtain ⟨s2, B, pr, hT2, hg2, hu2, hbw2, hpl⟩ := HRj2.out
        have hbase2 : bs ≤ wr.heap.size := by have := hbw2.size; rw [← HBs.out]; exact this
        obtain ⟨A9, c9, rfl⟩ := hT2.len
        obtain ⟨np, hnp⟩ : ∃ np, pr.length = np := ⟨_, rfl⟩
        rw [hnp] at hT2 hpl ⊢
        have HNp := Lib.hid hnp
        have HT := Lib.hid hT2
        have HG := Lib.hid hg2
        have HU := Lib.hid hu2
        have HBw := Lib.hid hbw2
        have HBa := Lib.hid hbase2
        clear HRj2 hnp hT2 hg2 hu2
        by_cases hlt2 : j2 < n1
        · have hltz2 : (j2 : Int) < (n1 : Int) := by omega
          obtain ⟨a, ha⟩ : ∃ a, l1[j2]? = some a := ⟨_, List.getElem?_eq_getElem (by rw [HE1.out]; exact hlt2)⟩
          obtain ⟨g, off, rfl, k0, k1, k2, k3, k4⟩ := ActsR.at (HR1.out.below (HB1.out.trans (hbw2.mono (by rw [← HBs.out]; exact HB1.out.size)))) ha
          have HAt : Hid (∀ W, Below bs w1 W → ActAt W g (off + j2 * 5) a) := Lib.hid (fun W hW => by
            obtain ⟨g', off', e, h⟩ := ActsR.at (HR1.out.below (HB1.out.trans (hW.mono (by rw [← HBs.out]; exact HB1.out.size)))) ha
            cases e
            exact h)
          have HFa := Lib.hid (HF1.out a (List.mem_of_getElem? ha))
          have hpk := fun W => pick_any a.kd 14 W (by omega) (by omega)
          have hr14 := pick_range a.kd 14 (by omega)
          obtain ⟨p, hp⟩ : ∃ p, pickZ a.kd 14 = p := ⟨_, rfl⟩
          rw [hp] at hpk hr14
          have HPk := Lib.hid hpk
          have HEp := Lib.hid hp
          clear hpk hp ha hbw2 hbase2
          have hc : (p = 0 ∨ p = 1) ∨ (p = 4 ∨ p = 5) ∨ p = 7 ∨ (¬ p = 0 ∧ ¬ p = 1 ∧ ¬ p = 4 ∧ ¬ p = 5 ∧ ¬ p = 7) := by omega
          clear hr14
          rcases hc with hc | hc | rfl | ⟨q0, q1, q4, q5, q7⟩
          · obtain ⟨c, hcc⟩ := actO_set s2 p a.n a.k a.x hc
            obtain ⟨wo, rfl⟩ : ∃ wo, wo = wr := ⟨_, rfl⟩
            have hdo := fun W (hW : Below wo.heap.size wo W) => (HT.out.below hW).act (Nat.le_trans HBa.out hW.size) (fun lab P h => do_any h (Nat.le_trans HBa.out hW.size) HG.out a.kd a.n a.k a.x HFa.out.2.1)
            obtain ⟨r, hr⟩ : ∃ r, (setO s2 a.n c).1 = r := ⟨_, rfl⟩
            rw [HEp.out, hcc, hr] at hdo
            have HDo := Lib.hid hdo
            have HSc := Lib.hid (fun W (hW : Below wo.heap.size wo W) => (HT.out.below hW).quiet (fun lab P h => scope_any h))
            have HJ : Hid (np ≤ j2 ∧ j2 < n1) := Lib.hid ⟨hpl, hlt2⟩
            have HR5 := Lib.hid (fun W (hW : Below wo.heap.size wo W) => (⟨_, B, pr, HT.out.below hW, HG.out, HU.out, HBw.out.trans (hW.mono HBa.out), by rw [HNp.out]; omega⟩ : Run2 w1 W bs vp op s t (j2 + 1) (.slice A9 np c9)))
            clear hdo hcc hr k1 k2 k3 k4
            rcases hc with rfl | rfl
            all_goals (
              go_wp2_with fail
              refine (HPk.out _).mono ?_
              rintro e w4 ⟨rfl, rfl⟩
              clear k0
              go_wp2_with fail
              go_loopw [11] (fun k wr => ∃ q : Nat, k = .int .i64 (q : Int) ∧ q ≤ np ∧ Hid (∃ d, wr = wo.drewN d)) (fun k _ => np - (intOf k).toNat)
              case atStart => exact ⟨0, rfl, Nat.zero_le _, ⟨0, rfl⟩⟩
              case round =>
                obtain ⟨q, rfl, hq, HQ⟩ := hrel
                have hwb : Below wo.heap.size wo wr := by
                  obtain ⟨d, hd⟩ := HQ.out
                  rw [hd]
                  exact below_drewN (Below.refl _ _) d
                have HWb := Lib.hid hwb
                by_cases hlq : q < np
                · have hlqz : (q : Int) < (np : Int) := by omega
                  obtain ⟨⟨bn, bk⟩, hb⟩ : ∃ b, pr[q]? = some b := ⟨_, List.getElem?_eq_getElem (by rw [HNp.out]; exact hlq)⟩
                  have HMem := Lib.hid (List.mem_of_getElem? hb)
                  obtain ⟨hx9, g9, rfl, e1, e2⟩ := (HT.out.below hwb).cells q _ hb
                  clear hx9
                  have hbw : Below bs w1 wr := HBw.out.trans (hwb.mono HBa.out)
                  have HBx := Lib.hid hbw
                  obtain ⟨k0, k1, k2, k3, k4⟩ := HAt.out _ hbw
                  have HSq : Hid (∀ d, Calls Try.prog 14 #[vptr vp] (wr.drewN d) fun e w' => e = .returned (.int .i64 s2.scope) ∧ ∃ m, w' = wr.drewN m) :=
                    Lib.hid fun d => (HSc.out _ (below_drewN HWb.out d)).mono fun _ _ h => ⟨h.1, d, h.2.symm⟩
                  clear hb hwb hbw
                  by_cases hb1 : bn = a.n
                  · by_cases hb2 : bk = s2.scope
                    · subst hb1
                      subst hb2
                      go_wp2_with fail
                      go_quiet ((go_at_call 14; exact HSq.out _))
                      go_wp2_with fail
                      refine (HDo.out _ (below_drewN HWb.out _)).mono ?_
                      rintro e w5 ⟨rfl, hT5, hb5⟩
                      have HR6 : Hid (Run2 w1 w5 bs vp op s t (j2 + 1) (.slice (some ⟨g9, 0, none⟩) np c9)) := Lib.hid ⟨_, B, _, hT5, good_set HG.out _ _, HU.out.set _ c HMem.out, (below_drewN HBx.out _).trans hb5, by have := HJ.out; have := HNp.out; omega⟩
                      clear k0 k1 k2 k3 k4 e1 e2 hT5 hb5
                      go_wp2_with fail
                      go_roundw
                      case rel => exact ⟨j2 + 1, by go_num, by have := HJ.out; omega, HR6⟩
                      case measure => have := HJ.out; simp [intOf]; omega
                    · subst hb1
                      have hd2 : (bk == s2.scope) = false := beq_eq_false_iff_ne.2 hb2
                      have hd3 : decide (bk = s2.scope) = false := decide_eq_false hb2
                      go_wp2_with fail
                      go_quiet ((go_at_call 14; exact HSq.out _))
                      clear k0 k1 k2 k3 k4 e1 e2
                      go_wp2_with fail
                      go_roundw
                      case rel => exact ⟨q + 1, by go_num, by omega, by obtain ⟨d, hd⟩ := HQ.out; exact ⟨d + nq, by rw [hd, World.drewN_drewN]⟩⟩
                      case measure => simp [intOf]; omega
                  · have hd2 : (bn == a.n) = false := beq_eq_false_iff_ne.2 hb1
                    have hd3 : decide (bn = a.n) = false := decide_eq_false hb1
                    go_wp2_with fail
                    go_quiet ((go_at_call 14; exact HSq.out _))
                    clear k0 k1 k2 k3 k4 e1 e2
                    go_wp2_with fail
                    go_roundw
                    case rel => exact ⟨q + 1, by go_num, by omega, by obtain ⟨d, hd⟩ := HQ.out; exact ⟨d + nq, by rw [hd, World.drewN_drewN]⟩⟩
                    case measure => simp [intOf]; omega
                · have hqe : q = np := by omega
                  subst hqe
                  have hltq : ¬ ((q : Nat) : Int) < (q : Int) := by omega
                  have HR6 := Lib.hid (HR5.out _ hwb)
                  clear hwb
                  go_wp2_with fail
                  go_roundw
                  case rel => exact ⟨j2 + 1, by go_num, by have := HJ.out; omega, HR6⟩
                  case measure => have := HJ.out; simp [intOf]; omega)
          · obtain ⟨i0, hi0, hz0, hz1, hz2⟩ := info_parts act_info
            have HI0 := Lib.hid hi0
            have HZ0 := Lib.hid hz0
            have HZ1 := Lib.hid hz1
            have HZ2 := Lib.hid hz2
            obtain ⟨r, hr⟩ : ∃ r, (bindO s2 a.n a.x).1 = r := ⟨_, rfl⟩
            have hbd := fun W (hW : Below wr.heap.size wr W) => (HT.out.below hW).act (Nat.le_trans HBa.out hW.size) (fun lab P h => bind_any h (Nat.le_trans HBa.out hW.size) a.n a.x HFa.out.2.1)
            rw [hr] at hbd
            have HBd := Lib.hid hbd
            have HEr := Lib.hid hr
            have HBx := Lib.hid HBw.out.drew
            have HBr := Lib.hid (Below.refl wr.heap.size wr).drew
            have HBn : Hid (np + 1 ≤ maxLen ∧ (np + 1) * 40 ≤ 140737488355328) := Lib.hid ⟨by unfold maxLen; omega, by omega⟩
            have HJ : Hid (np ≤ j2 ∧ j2 < n1) := Lib.hid ⟨hpl, hlt2⟩
            clear hbd hr hi0 hz0 hz1 hz2 k1 k2 k3 k4
            by_cases er : r = 0
            · subst er
              rcases hc with rfl | rfl
              all_goals (
                go_wp2_with fail
                refine (HPk.out _).mono ?_
                rintro e w4 ⟨rfl, rfl⟩
                clear k0
                obtain ⟨_, k1, _, k3, k4⟩ := HAt.out _ HBw.out
                go_wp2_with fail
                go_region_held3 (fun w' => w'.cell? ⟨g, off + j2 * 5 + 1, none⟩ = some (.int .i64 a.n) ∧ w'.cell? ⟨g, off + j2 * 5 + 3, none⟩ = some (.int .i64 a.x.1) ∧ w'.cell? ⟨g, off + j2 * 5 + 4, none⟩ = some (.int .i64 a.x.2))
                  (first | exact ⟨(HAt.out _ HBx.out).2.1, (HAt.out _ HBx.out).2.2.2.1, (HAt.out _ HBx.out).2.2.2.2⟩)
                  (first
                    | (go_at_call 13; refine (HBd.out _ HBr.out).mono ?_; rintro e w5 ⟨rfl, hT5, hb5⟩; have HT5 := Lib.hid hT5; have HSz : Hid (bs ≤ w5.heap.size) := Lib.hid (Nat.le_trans HBa.out hb5.size); have HBx : Hid (Below bs w1 w5) := Lib.hid (HBx.out.trans hb5); clear hT5 hb5))
                have hrow := fun W (hW : Below w5.heap.size w5 W) => (HT5.out.below hW).row
                rw [HNp.out] at hrow
                have HRow := Lib.hid hrow
                have hsc := fun W (hW : Below w5.heap.size w5 W) => (HT5.out.below hW).quiet (fun lab P h => scope_any h)
                rw [bindO_scope] at hsc
                have HSc := Lib.hid hsc
                have HBr := Lib.hid (Below.refl w5.heap.size w5).drew
                have HBx0 := HBx
                have HBx := Lib.hid HBx.out.drew
                obtain ⟨_, j1, _⟩ := HAt.out _ HBx0.out
                clear k1 k3 k4 hrow hsc HBd
                go_wp2_with fail
                go_region_held3 (fun w' => w'.cell? ⟨g, off + j2 * 5 + 1, none⟩ = some (.int .i64 a.n))
                  (first | exact (HAt.out _ HBx.out).2.1 | exact (HAt.out _ (HBx.out.alloc HSz.out _)).2.1)
                  (first
                    | (refine step_append_row rfl (.tmp 74) (.tmp 83) 22 rfl bs 31 i0 (.agg #[.int .i64 0, .int .i64 0, .int .i64 0, .int .i64 0, .int .i64 0]) 5 40 Try.underlying22 HI0.out HZ0.out HZ1.out HZ2.out rfl (by decide) (.slice A9 np c9) np (acells pr) (by rfl) (HRow.out _ ((Below.refl _ _).drew.alloc (Nat.le_refl _) _)) ⟨_, 0, none⟩ 1 1 [.int .i64 0, .int .i64 a.n, .int .i64 s2.scope, .int .i64 0, .int .i64 0] (by rfl) rfl (five_cell _ _ _ rfl) (five_one _ _) HBn.out.1 HBn.out.2 (by simp; exact Nat.le_succ_of_le HSz.out) ?_; intro A6 c6 w6 hap; have HT6 := Lib.hid (HT5.out.push ((Below.refl _ _).drew.alloc (Nat.le_refl _) _) a.n s2.scope (by rw [HNp.out]) hap); have HBx : Hid (Below bs w1 w6) := Lib.hid (HBx0.out.trans (HT5.out.pushBelow ((Below.refl _ _).drew.alloc (Nat.le_refl _) _) HSz.out hap)); clear hap)
                    | (go_at_call 14; refine (HSc.out _ HBr.out).mono ?_; rintro e w7 ⟨rfl, rfl⟩))
                have HR5 : Hid (Run2 w1 w6 bs vp op s t (j2 + 1) (.slice A6 (np + 1) c6)) := by
                  obtain ⟨B', hu'⟩ := HU.out.bind a.n a.x HEr.out
                  exact Lib.hid ⟨_, B', _, HT6.out, good_bind HG.out _ _, hu', HBx.out, by have := HJ.out; have := HNp.out; simp; omega⟩
                clear j1 HBx HT6
                go_wp2_with fail
                go_roundw
                case rel => exact ⟨j2 + 1, by go_num, by have := HJ.out; omega, HR5⟩
                case measure => have := HJ.out; simp [intOf]; omega)
            · have er1 : (r == 0) = false := beq_eq_false_iff_ne.2 er
              rcases hc with rfl | rfl
              all_goals (
                go_wp2_with fail
                refine (HPk.out _).mono ?_
                rintro e w4 ⟨rfl, rfl⟩
                clear k0
                obtain ⟨_, k1, _, k3, k4⟩ := HAt.out _ HBw.out
                go_wp2_with fail
                go_region_held3 (fun w' => w'.cell? ⟨g, off + j2 * 5 + 1, none⟩ = some (.int .i64 a.n) ∧ w'.cell? ⟨g, off + j2 * 5 + 3, none⟩ = some (.int .i64 a.x.1) ∧ w'.cell? ⟨g, off + j2 * 5 + 4, none⟩ = some (.int .i64 a.x.2))
                  (first | exact ⟨(HAt.out _ HBx.out).2.1, (HAt.out _ HBx.out).2.2.2.1, (HAt.out _ HBx.out).2.2.2.2⟩)
                  (first
                    | (go_at_call 13; refine (HBd.out _ HBr.out).mono ?_; rintro e w5 ⟨rfl, hT5, hb5⟩; have HT5 := Lib.hid hT5; have HBx : Hid (Below bs w1 w5) := Lib.hid (HBx.out.trans hb5); clear hT5 hb5))
                have HR5 : Hid (Run2 w1 w5 bs vp op s t (j2 + 1) (.slice A9 np c9)) := Lib.hid ⟨_, B, _, HT5.out, good_bind HG.out _ _, HU.out.bindNot _ _ (by rw [HEr.out]; exact er), HBx.out, by have := HJ.out; have := HNp.out; omega⟩
                clear k1 k3 k4 HBx HT5
                go_wp2_with fail
                go_roundw
                case rel => exact ⟨j2 + 1, by go_num, by have := HJ.out; omega, HR5⟩
                case measure => have := HJ.out; simp [intOf]; omega)
          · have HSc := Lib.hid (HT.out.act HBa.out (fun lab P h => setScope_any h a.k))
            clear k1 k3 k4
            go_wp2_with fail
            refine (HPk.out _).mono ?_
            rintro e w4 ⟨rfl, rfl⟩
            go_wp2_with fail
            refine HSc.out.mono ?_
            rintro e w5 ⟨rfl, hT5, hb5⟩
            have HR5 := Lib.hid (⟨_, B, pr, hT5, good_scope HG.out _, HU.out.scope _, HBw.out.trans hb5, by rw [HNp.out]; omega⟩ : Run2 w1 w5 bs vp op s t (j2 + 1) (.slice A9 np c9))
            clear hT5 hb5 k0 k2
            go_wp2_with fail
            go_roundw
            case rel => exact ⟨j2 + 1, by go_num, by omega, HR5⟩
            case measure => simp [intOf]; omega
          · have HR5 := Lib.hid (⟨_, B, pr, HT.out, HG.out, HU.out, HBw.out, by rw [HNp.out]; omega⟩ : Run2 w1 wr bs vp op s t (j2 + 1) (.slice A9 np c9))
            clear k1 k2 k3 k4
            go_wp2_with fail
            refine (HPk.out _).mono ?_
            rintro e w4 ⟨rfl, rfl⟩
            go_wp2_with fail
            go_roundw
            case rel => exact ⟨j2 + 1, by go_num, by omega, HR5⟩
            case measure => simp [intOf]; omega
        · have hqe : j2 = n1 := by omega
          subst hqe
          have hltz2 : ¬ ((j2 : Nat) : Int) < (j2 : Int) := by omega
          have hun := HT.out.act HBa.out (fun lab P h => unbind_any h HG.out (s.binds.length : Int))
          obtain ⟨e1, _⟩ := HU.out.done
          obtain ⟨f1, f2⟩ := HU.out.alike HSs.out
          rw [e1] at hun
          obtain ⟨s3, hs3⟩ : ∃ s3, (unbindO s2 (s.binds.length : Int)).2 = s3 := ⟨_, rfl⟩
          rw [hs3] at hun f1 f2
          obtain ⟨s4, hs4⟩ : ∃ s4, (setScopeO s3 s.scope).2 = s4 := ⟨_, rfl⟩
          rw [hs4] at f2
          have HUn := Lib.hid hun
          have HF1' := Lib.hid f1
          have HF2 := Lib.hid f2
          have HS4 := Lib.hid hs4
          clear hun e1 f1 f2 hs3 hs4 hbw2 hbase2
          go_wp2_with fail
          refine HUn.out.mono ?_
          rintro e w5 ⟨rfl, hT5, hb5⟩
          have hsw := hT5.copy (fun lab P h => scope_any h)
          rw [HAl.out.scope] at hsw
          have HSw := Lib.hid hsw
          have hss := hT5.act (Nat.le_trans HBa.out hb5.size) (fun lab P h => setScope_any h s.scope)
          rw [HF1'.out, HS4.out] at hss
          have HSs2 := Lib.hid hss
          have HB5 := Lib.hid (HBw.out.trans hb5)
          have HSz : Hid (bs ≤ w5.heap.size) := Lib.hid (Nat.le_trans HBa.out hb5.size)
          clear hT5 hb5 hsw hss HUn
          go_wp2_with fail
          refine HSw.out.mono ?_
          rintro e w6 ⟨rfl, rfl⟩
          go_wp2_with fail
          refine HSs2.out.mono ?_
          rintro e w7 ⟨rfl, hT7, hb7⟩
          have hdp := hT7.quiet (fun lab P h => depth_any h)
          rw [HF2.out.depth] at hdp
          have HDp := Lib.hid hdp
          have HT7 := Lib.hid hT7
          have HB7 := Lib.hid (HB5.out.trans hb7)
          have HSz7 : Hid (bs ≤ w7.heap.size) := Lib.hid (Nat.le_trans HSz.out hb7.size)
          have HV1 := Lib.hid (hT7.quiet (fun lab P h => values_any h))
          have HV2 := Lib.hid (fun W (hW : Below w7.heap.size w7 W) => (HT7.out.below hW).copy (fun lab P h => values_any h))
          clear hT7 hb7 hdp HSs2 HSw
          go_wp2_with fail
          refine HDp.out.mono ?_
          rintro e w8 ⟨rfl, rfl⟩
          go_wp2_with fail
          refine HV1.out.mono ?_
          rintro e w9 ⟨v1, rfl, hr1, hb9⟩
          have HR1' := Lib.hid hr1
          have HB9 := Lib.hid hb9
          clear hr1 hb9 HV1
          go_wp2_with fail
          refine (HV2.out _ HB9.out).mono ?_
          rintro e w10 ⟨v2, rfl, hr2, hb10⟩
          have hal : Alike s4 t := HF2.out.trans HAl.out.symm
          rw [← hal.vals] at hr2
          have HSm := Lib.hid (same_eq v1 v2 _ _ _ w10 (owns_below HR1'.out hb10) hr2 (by
            have q1 := valsC_len s4
            have q2 := recs_len s4.binds
            obtain ⟨⟨lab, P, _, _, q3, _⟩, _⟩ := HT7.out
            have q4 := q3.many
            rw [List.length_append]
            omega))
          have HAl4 := Lib.hid hal
          have HB10 := Lib.hid (HB9.out.trans (hb10.mono HB9.out.size))
          clear hr2 hb10 hal HV2
          go_wp2_with fail
          refine HSm.out.mono ?_
          rintro e w11 ⟨rfl, hb11⟩
          have hb12 : Below w7.heap.size w7 w11 := HB10.out.trans (hb11.mono HB10.out.size)
          have HR4 : Hid (Tri w11 bs vp op s4 t (.slice A9 np c9) pr ∧ Below bs w1 w11) := Lib.hid ⟨HT7.out.below hb12, HB7.out.trans (hb12.mono HSz7.out)⟩
          clear hb11 hb12 HSm
          go_wp2_with fail
          go_loopw [12] (fun i wr => ∃ j : Nat, i = .int .i64 (j : Int) ∧ j ≤ j2 ∧ Hid (Tri wr bs vp op s4 t (.slice A9 np c9) pr ∧ Below bs w1 wr)) (fun i _ => j2 - (intOf i).toNat)
          case atStart => exact ⟨0, rfl, Nat.zero_le _, HR4⟩
          case round =>
            obtain ⟨j4, rfl, hj4, HSt⟩ := hrel
            clear HR4
            by_cases hlt4 : j4 < j2
            · have hltz4 : (j4 : Int) < (j2 : Int) := by omega
              obtain ⟨a, ha⟩ : ∃ a, l1[j4]? = some a := ⟨_, List.getElem?_eq_getElem (by rw [HE1.out]; exact hlt4)⟩
              obtain ⟨g, off, rfl, _, k1, _⟩ := ActsR.at (HR1.out.below (HB1.out.trans (HSt.out.2.mono (by rw [← HBs.out]; exact HB1.out.size)))) ha
              have HAt : Hid (∀ W, Below bs w1 W → ActAt W g (off + j4 * 5) a) := Lib.hid (fun W hW => by
                obtain ⟨g', off', e, h⟩ := ActsR.at (HR1.out.below (HB1.out.trans (hW.mono (by rw [← HBs.out]; exact HB1.out.size)))) ha
                cases e
                exact h)
              have hfa := HF1.out a (List.mem_of_getElem? ha)
              have hg1 := HSt.out.1.quiet (fun lab P h => get_any h a.n hfa.2.1)
              have hg2 := fun W (hW : Below wr.heap.size wr W) => (HSt.out.1.below hW).copy (fun lab P h => get_any h a.n hfa.2.1)
              rw [← HAl4.out.get a.n] at hg2
              obtain ⟨⟨⟨x1, x2⟩, xb⟩, hx⟩ : ∃ c, getO s4 a.n = c := ⟨_, rfl⟩
              rw [hx] at hg1 hg2
              have hbz : bs ≤ wr.heap.size := by
                have := HSt.out.2.size
                rw [← HBs.out]
                exact this
              have HBz := Lib.hid hbz
              have HG1 := Lib.hid hg1
              have HG2 := Lib.hid hg2
              clear ha hfa hg1 hg2 hx hbz
              go_wp2_with fail
              refine HG1.out.mono ?_
              rintro e w5 ⟨rfl, hb5⟩
              have hb6 : Below wr.heap.size wr (w5.alloc (.cells #[.int .i64 x1, .int .i64 x2] 29)) := hb5.alloc hb5.size _
              obtain ⟨_, k1', _⟩ := HAt.out _ (HSt.out.2.trans (hb6.mono HBz.out))
              have HB5 := Lib.hid hb5
              have HB6 := Lib.hid hb6
              clear k1 hb5 hb6 HG1
              go_wp2_with fail
              refine (HG2.out _ HB6.out).mono ?_
              rintro e w6 ⟨rfl, hb7⟩
              have hq5 := (Blk.new w5 #[.int .i64 x1, .int .i64 x2] 29).below hb7
              have hq6 := hq5.alloc (.cells #[.int .i64 x1, .int .i64 x2] 29)
              have hq7 := Blk.new w6 #[.int .i64 x1, .int .i64 x2] 29
              have m0 := hq6.cell 0 _ rfl
              have m1 := hq6.cell 1 _ rfl
              have m2 := hq7.cell 0 _ rfl
              have m3 := hq7.cell 1 _ rfl
              have hb8 : Below wr.heap.size wr (w6.alloc (.cells #[.int .i64 x1, .int .i64 x2] 29)) := (HB6.out.trans (hb7.mono HB6.out.size)).alloc (HB6.out.trans (hb7.mono HB6.out.size)).size _
              have HRn : Hid (Tri (w6.alloc (.cells #[.int .i64 x1, .int .i64 x2] 29)) bs vp op s4 t (.slice A9 np c9) pr ∧ Below bs w1 (w6.alloc (.cells #[.int .i64 x1, .int .i64 x2] 29))) := Lib.hid ⟨HSt.out.1.below hb8, HSt.out.2.trans (hb8.mono HBz.out)⟩
              clear k1' hb7 hb8 hq5 hq6 hq7 HG2
              go_wp2_with fail
              go_roundw
              case rel => exact ⟨j4 + 1, by go_num, by omega, HRn⟩
              case measure => simp [intOf]; omega
            · have hqe : j4 = j2 := by omega
              subst hqe
              have hltz4 : ¬ ((j4 : Nat) : Int) < (j4 : Int) := by omega
              go_wp2_with fail
              go_ret
              exact ⟨rfl, HB1.out.trans (HSt.out.2.mono (by rw [← HBs.out]; exact HB1.out.size))⟩
/-- The whole: for any two lists of acts. -/
theorem undone_any (v0 : Value) (l0 : List Ac) (v1 : Value) (l1 : List Ac) (w : World) (R0 : ActsR w v0 l0) (b0 : l0.length ≤ 9223372036854775807) (F0 : ∀ a ∈ l0, FitsA a) (R1 : ActsR w v1 l1) (b1 : l1.length ≤ 9223372036854775807) (F1 : ∀ a ∈ l1, FitsA a) :
    Calls Try.prog 3 #[v0, v1] w fun e w' => e = .returned (.bool true) ∧ Below w.heap.size w w' := by
  obtain ⟨A0, c0, rfl⟩ := R0.form
  obtain ⟨A1, c1, rfl⟩ := R1.form
  by_cases hl : 40 < l0.length ∨ 40 < l1.length
  · exact undone_light hl b0 b1
  · exact undone_walk R0 R1 (by omega) (by omega) F0 F1
end Go.Proofs.Ytkbdonecbepfnaa.Vs
