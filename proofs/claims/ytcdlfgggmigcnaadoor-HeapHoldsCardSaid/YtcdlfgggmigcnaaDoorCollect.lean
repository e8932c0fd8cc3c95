/- The contract of Collect: it keeps just what is reachable. -/
import Derived.Test.YtcdlfgggmigcnaaDoorReach
namespace Go.Proofs.YtcdlfgggmigcnaaDoor.Collect
set_option maxRecDepth 100000
open Go.RowKit
open Go.Proofs.YtcdlfgggmigcnaaDoor.Own Go.Proofs.YtcdlfgggmigcnaaDoor.Hp Go.Proofs.YtcdlfgggmigcnaaDoor.Rep Go.Proofs.YtcdlfgggmigcnaaDoor.Base Go.Proofs.YtcdlfgggmigcnaaDoor.Get Go.Proofs.YtcdlfgggmigcnaaDoor.Nums Go.Proofs.YtcdlfgggmigcnaaDoor.Dfs Go.Proofs.YtcdlfgggmigcnaaDoor.Clone Go.Proofs.YtcdlfgggmigcnaaDoor.Visit Go.Proofs.YtcdlfgggmigcnaaDoor.Quick Go.Proofs.YtcdlfgggmigcnaaDoor.Add Go.Proofs.YtcdlfgggmigcnaaDoor.Remove

/-- The objects when the first k numbers have been gone through. -/
def cut (ob : Obs) (mk : Nat → Bool) (k : Nat) : Obs := fun i => if i < k ∧ mk i = false then none else ob i
theorem cut_zero (ob : Obs) (mk : Nat → Bool) : cut ob mk 0 = ob := by
  funext i
  simp [cut]
theorem cut_keep (ob : Obs) (mk : Nat → Bool) (k : Nat) (h : mk k = true ∨ ob k = none) : cut ob mk (k + 1) = cut ob mk k := by
  funext i
  unfold cut
  by_cases hi : i = k
  · subst hi
    rcases h with h | h
    · rw [if_neg (by simp [h]), if_neg (by simp [h])]
    · rw [if_neg (by omega : ¬ (i < i ∧ mk i = false)), h]
      split <;> rfl
  · by_cases hc : i < k ∧ mk i = false
    · rw [if_pos ⟨by omega, hc.2⟩, if_pos hc]
    · rw [if_neg (fun hh => hc ⟨by omega, hh.2⟩), if_neg hc]
theorem cut_drop (ob : Obs) (mk : Nat → Bool) (k : Nat) (h : mk k = false) : cut ob mk (k + 1) = put (cut ob mk k) k none := by
  funext i
  unfold put cut
  by_cases hi : i = k
  · subst hi
    rw [if_pos ⟨by omega, h⟩, if_pos rfl]
  · rw [if_neg hi]
    by_cases hc : i < k ∧ mk i = false
    · rw [if_pos ⟨by omega, hc.2⟩, if_pos hc]
    · rw [if_neg (fun hh => hc ⟨by omega, hh.2⟩), if_neg hc]
theorem cut_at (ob : Obs) (mk : Nat → Bool) (k : Nat) : cut ob mk k k = ob k := by
  unfold cut
  rw [if_neg (by omega)]
theorem cut_all (ob : Obs) (mk : Nat → Bool) (roots : List Wd) (M : Nat) (hM : ∀ i, M ≤ i → ob i = none) (h : ∀ n, collected ob roots n = if mk n = true then ob n else none) : cut ob mk M = collected ob roots := by
  funext i
  rw [h i]
  unfold cut
  by_cases hi : i < M
  · cases hm : mk i with
    | true => simp
    | false => simp [hi]
  · rw [if_neg (by omega), hM i (by omega)]
    split <;> rfl

theorem collect_null (v : Value) (w : World) : Calls Tryd.prog 21 #[.pointer none, v] w fun e w' => e = .returned (.int .i64 0) ∧ w = w' := by
  have HV := Lib.hid valid_nil
  go_enter Tryd.func21, Tryd.ntmps21
  go_wp2_with (go_at_call 66; refine (HV.out _).mono ?_; rintro e w' ⟨rfl, rfl⟩)
  go_ret
  exact ⟨rfl, rfl⟩

/-- What holds between the rounds. -/
structure Half (w wr : World) (base hp lim : Nat) (ob : Obs) (mk : Nat → Bool) (lab : Nat → Option Lab) (M g k : Nat) (lab' : Nat → Option Lab) (P' : Parts) : Prop where
  heap : HeapIs wr base hp lim (cut ob mk k) lab' P'
  m : P'.m = M
  after : After w wr lab lab'
  row : Row wr g (mcells M mk)

set_option maxHeartbeats 8000000 in
theorem collect_any {w : World} {base hp lim : Nat} {ob : Obs} {lab : Nat → Option Lab} {P : Parts} (h : HeapIs w base hp lim ob lab P) (hb : base ≤ w.heap.size) (v : Value) (roots : List Wd) (hl : SlR w v roots.length (wcells roots)) (hm : roots.length ≤ 4611686018427387904) :
    Calls Tryd.prog 21 #[ptr hp, v] w fun e w' => e = .returned (.int .i64 ((manyTo ob lim : Int) - manyTo (collected ob roots) lim)) ∧ AddOk w w' base hp lim (collected ob roots) lab := by
  have hML : P.m ≤ 65536 := by have := h.m; have := h.lim2; omega
  have HV := Lib.hid (valid_any h w (Below.refl _ _))
  have HMa := Lib.hid (many_any h)
  have HR := Lib.hid (fun q => reach_any (h.below (below_drewN (Below.refl _ w) q)) v roots (hl.below (below_drewN (Below.refl _ w) q)) hm)
  have HH := Lib.hid h
  have HB := Lib.hid hb
  have nn := neq_nil
  obtain ⟨a, ha⟩ : ∃ a, manyTo ob lim = a := ⟨_, rfl⟩
  have hal : a ≤ 65536 := by have := manyTo_le ob lim; have := h.lim2; omega
  rw [ha] at HMa ⊢
  clear h hb hl ha
  go_enter Tryd.func21, Tryd.ntmps21
  go_wp2_with fail
  refine HV.out.mono ?_
  rintro e w1 ⟨rfl, rfl⟩
  go_wp2_with fail
  refine HMa.out.mono ?_
  rintro e w1 ⟨rfl, q, rfl⟩
  go_wp2_with fail
  refine (HR.out q).mono ?_
  rintro e W1 ⟨⟨r, rfl, mk, g, rfl, hg, hrow, hcol⟩, hb1⟩
  have hbw : Below w.heap.size w W1 := (below_drewN (Below.refl _ w) q).trans hb1
  have hstart : Half W1 W1 base hp lim ob mk lab P.m g 0 lab P := ⟨by rw [cut_zero]; exact HH.out.below hbw, rfl, .refl _ _, hrow⟩
  have HS := Lib.hid hstart
  have HC := Lib.hid (cut_all ob mk roots P.m HH.out.out hcol)
  have HG := Lib.hid (show w.heap.size ≤ g ∧ g < W1.heap.size from ⟨hg, hrow.lt⟩)
  have HBW := Lib.hid hbw
  clear hstart hcol hb1 hrow hg hbw
  go_wp2_with fail
  go_loopw [17] (fun i wr => ∃ k lab' P', i = .int .i64 (k : Nat) ∧ k ≤ P.m ∧ Hid (Half W1 wr base hp lim ob mk lab P.m g k lab' P')) (fun i _ => P.m - (intOf i).toNat)
  case atStart => exact ⟨0, lab, P, rfl, Nat.zero_le _, HS⟩
  case round =>
    obtain ⟨k, lab', P', rfl, hk, HHa⟩ := hrel
    by_cases hlt : k < P.m
    · have hltz : (k : Int) < P.m := by omega
      have hmr := HHa.out.row.cell k _ (mcells_at P.m mk k hlt)
      cases hmk : mk k with
      | true =>
        rw [hmk] at hmr
        have HN := Lib.hid (show Half W1 wr base hp lim ob mk lab P.m g (k + 1) lab' P' from ⟨by rw [cut_keep ob mk k (.inl hmk)]; exact HHa.out.heap, HHa.out.m, HHa.out.after, HHa.out.row⟩)
        clear hmk HHa
        go_wp2_with fail
        go_roundw
        case rel => exact ⟨k + 1, lab', P', by go_num, by omega, HN⟩
        case measure => simp [intOf]; omega
      | false =>
        rw [hmk] at hmr
        obtain ⟨go, co, hov⟩ : ∃ go co, P'.ov = .slice (some ⟨go, 0, none⟩) P.m co := by
          rcases HHa.out.heap.objs.2 with ⟨_, h0⟩ | ⟨g', cap, cur, hv, _⟩
          · have := HHa.out.m; omega
          · exact ⟨g', cap, by rw [hv, HHa.out.m]⟩
        have c1 := HHa.out.heap.blk.cell 1 _ rfl
        rw [hov] at c1
        obtain ⟨v0, hv0, hO⟩ := HHa.out.heap.each k (by have := HHa.out.m; omega)
        have hrowo := HHa.out.heap.objs
        rw [hov, HHa.out.m] at hrowo
        have c2 := (Row.of_owns hrowo).cell k _ hv0
        rw [cut_at] at hO
        cases hob : ob k with
        | none =>
          rw [hob] at hO
          obtain rfl := hO
          have HN := Lib.hid (show Half W1 wr base hp lim ob mk lab P.m g (k + 1) lab' P' from ⟨by rw [cut_keep ob mk k (.inr hob)]; exact HHa.out.heap, HHa.out.m, HHa.out.after, HHa.out.row⟩)
          clear hmk HHa hob hrowo hv0 hov
          go_wp2_with fail
          go_roundw
          case rel => exact ⟨k + 1, lab', P', by go_num, by omega, HN⟩
          case measure => simp [intOf]; omega
        | some o =>
          rw [hob] at hO
          obtain ⟨t, pv, rfl⟩ := some_iface hO
          have hne := neq_some t pv
          have hR := remove_any HHa.out.heap (Nat.le_trans HB.out (Nat.le_trans HBW.out.size HHa.out.after.keeps.size)) (n := k) (o := o) (by rw [cut_at]; exact hob)
          have HRm := Lib.hid hR
          have HCd := Lib.hid (cut_drop ob mk k hmk)
          clear hmk hob hrowo hv0 hov hO hR
          go_wp2_with fail
          refine HRm.out.mono ?_
          rintro e w2 ⟨rfl, lab2, P2, hI2, hA2, hm2⟩
          have HN := Lib.hid (show Half W1 w2 base hp lim ob mk lab P.m g (k + 1) lab2 P2 from ⟨by rw [HCd.out]; exact hI2, by rw [hm2, HHa.out.m], HHa.out.after.trans hA2, HHa.out.row.keeps hA2.keeps (fun hf => by
            rcases HHa.out.after.grow g hf with e | e
            · have := HG.out
              cases hh : lab g with
              | none => exact e hh
              | some l => have := (HH.out.inb g l hh).2; omega
            · have := HG.out; omega)⟩)
          clear hI2 hA2 hm2 HHa
          go_wp2_with fail
          go_roundw
          case rel => exact ⟨k + 1, lab2, P2, by go_num, by omega, HN⟩
          case measure => simp [intOf]; omega
    · have hltz : ¬ (k : Int) < P.m := by omega
      obtain rfl : k = P.m := by omega
      have hI := HHa.out.heap
      rw [HC.out] at hI
      have hM2 := many_any hI
      have hfin : AddOk w wr base hp lim (collected ob roots) lab := ⟨lab', P', hI, (After.below (l := lab) HBW.out).trans HHa.out.after⟩
      have hc2 := manyTo_le (collected ob roots) lim
      have hl2 := hI.lim2
      obtain ⟨c, hc⟩ : ∃ c, manyTo (collected ob roots) lim = c := ⟨_, rfl⟩
      rw [hc] at hM2 hc2
      have HM2 := Lib.hid hM2
      have HF := Lib.hid hfin
      have HCc := Lib.hid hc
      have hcl : c ≤ 65536 := by omega
      clear hI hM2 hfin hc hc2 hl2 HHa
      go_wp2_with fail
      refine HM2.out.mono ?_
      rintro e w2 ⟨rfl, q2, rfl⟩
      go_wp2_with fail
      go_ret
      rw [HCc.out]
      obtain ⟨lab2, P2, h1, h2⟩ := HF.out
      exact ⟨rfl, lab2, P2, h1.below (below_drewN (Below.refl _ _) q2), ⟨h2.keeps.drewN q2, h2.grow⟩⟩
end Go.Proofs.YtcdlfgggmigcnaaDoor.Collect
