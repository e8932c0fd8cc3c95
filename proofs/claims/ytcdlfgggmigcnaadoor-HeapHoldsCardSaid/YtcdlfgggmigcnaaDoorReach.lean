/- The contract of reachable: it marks just what is reachable. -/
import Derived.Test.YtcdlfgggmigcnaaDoorContained
import Derived.Deep.LoopGhost
import Derived.Deep.OwnRows
import Derived.Outline
namespace Go.Proofs.YtcdlfgggmigcnaaDoor.Visit
set_option maxRecDepth 100000
open Go.RowKit
open Go.Proofs.YtcdlfgggmigcnaaDoor.Own Go.Proofs.YtcdlfgggmigcnaaDoor.Hp Go.Proofs.YtcdlfgggmigcnaaDoor.Rep Go.Proofs.YtcdlfgggmigcnaaDoor.Base Go.Proofs.YtcdlfgggmigcnaaDoor.Get Go.Proofs.YtcdlfgggmigcnaaDoor.Nums Go.Proofs.YtcdlfgggmigcnaaDoor.Place Go.Proofs.YtcdlfgggmigcnaaDoor.Dfs Go.Proofs.YtcdlfgggmigcnaaDoor.Clone

theorem made_bools (m : Nat) : (madeCells #[.bool false] m).toList = mcells m (fun _ => false) := by
  rw [toList_madeCells_one]
  unfold mcells
  apply List.ext_getElem?
  intro k
  by_cases hk : k < m
  · simp [hk]
  · simp [hk]
theorem made_size (m : Nat) : (madeCells #[.bool false] m).size = m := by
  have := congrArg List.length (made_bools m)
  simpa [mcells] using this
theorem fuel_start (M : Nat) (h : M ≤ 65536) : Fuel M ⟨fun _ => false, []⟩ := by
  unfold Fuel
  have := unm_le (fun _ => false) M
  simp
  omega

/-- The world in which the roots are visited. -/
theorem ds_start {w : World} {hp M : Nat} (vals : List Value) (W : World) (hW : W = (((w.alloc (.cells #[ptr hp] 23)).alloc (.cells (madeCells #[.bool false] M) 4)).alloc (.cells #[.slice (some ⟨w.heap.size + 1, 0, none⟩) M M] 56)).alloc (.cells #[.slice none 0 0] 103)) :
    DS w hp w.heap.size (w.heap.size + 1) (w.heap.size + 1 + 1) (w.heap.size + 1 + 1 + 1) M vals ⟨fun _ => false, []⟩ W := by
  subst hW
  have b0 := (((Blk.new w #[ptr hp] 23).alloc (.cells (madeCells #[.bool false] M) 4)).alloc (.cells #[.slice (some ⟨w.heap.size + 1, 0, none⟩) M M] 56)).alloc (.cells #[.slice none 0 0] 103)
  have b1 := ((Blk.new (w.alloc (.cells #[ptr hp] 23)) (madeCells #[.bool false] M) 4).alloc (.cells #[.slice (some ⟨w.heap.size + 1, 0, none⟩) M M] 56)).alloc (.cells #[.slice none 0 0] 103)
  have b2 := (Blk.new ((w.alloc (.cells #[ptr hp] 23)).alloc (.cells (madeCells #[.bool false] M) 4)) #[.slice (some ⟨w.heap.size + 1, 0, none⟩) M M] 56).alloc (.cells #[.slice none 0 0] 103)
  have b3 := Blk.new (((w.alloc (.cells #[ptr hp] 23)).alloc (.cells (madeCells #[.bool false] M) 4)).alloc (.cells #[.slice (some ⟨w.heap.size + 1, 0, none⟩) M M] 56)) #[.slice none 0 0] 103
  have e1 : (w.alloc (.cells #[ptr hp] 23)).heap.size = w.heap.size + 1 := by simp
  have e2 : ((w.alloc (.cells #[ptr hp] 23)).alloc (.cells (madeCells #[.bool false] M) 4)).heap.size = w.heap.size + 1 + 1 := by simp
  have e3 : (((w.alloc (.cells #[ptr hp] 23)).alloc (.cells (madeCells #[.bool false] M) 4)).alloc (.cells #[.slice (some ⟨w.heap.size + 1, 0, none⟩) M M] 56)).heap.size = w.heap.size + 1 + 1 + 1 := by simp
  rw [e1] at b1
  rw [e2] at b2
  rw [e3] at b3
  refine ⟨?_, b0, b2, ⟨_, b3, ⟨by simp [scells], .inl ⟨rfl, rfl⟩⟩⟩, ⟨_, _, b1, by simp [mcells, made_size], ?_⟩⟩
  · exact ((((Below.refl w.heap.size w).alloc (Nat.le_refl _) _).alloc (by simp) _).alloc (by simp; omega) _).alloc (by simp; omega) _
  · rw [made_bools, List.take_of_length_le (Nat.le_refl _)]

/-- What reachable returns: a slice of marks that tell what a collection leaves. -/
def Marks (w w' : World) (ob : Obs) (roots : List Wd) (M : Nat) (v : Value) : Prop :=
  ∃ mk : Nat → Bool, ∃ g, v = .slice (some ⟨g, 0, none⟩) M M ∧ w.heap.size ≤ g ∧ Row w' g (mcells M mk) ∧ (∀ n, collected ob roots n = if mk n = true then ob n else none)

set_option maxHeartbeats 8000000 in
theorem reach_any {w : World} {base hp lim : Nat} {ob : Obs} {lab : Nat → Option Lab} {P : Parts} (h : HeapIs w base hp lim ob lab P) (v : Value) (roots : List Wd) (hl : SlR w v roots.length (wcells roots)) (hm : roots.length ≤ 4611686018427387904) :
    Calls Tryd.prog 71 #[ptr hp, v] w fun e w' => (∃ r, e = .returned r ∧ Marks w w' ob roots P.m r) ∧ Below w.heap.size w w' := by
  have hB : Blocks w.heap.size w.heap.size (w.heap.size + 1) (w.heap.size + 1 + 1) (w.heap.size + 1 + 1 + 1) := ⟨Nat.le_refl _, by omega, by omega, by omega⟩
  have hM : P.m ≤ 65536 := by have := h.m; have := h.lim2; omega
  have hmk := run_make_row' (P := Tryd.prog) 56 4 (.bool false) 1 Tryd.underlying56 (by kernel_rfl) rfl .i64 .i64 P.m (by omega) (by omega)
  have hE := each_any h hB v roots hl hm ⟨fun _ => false, []⟩ _ (ds_start P.vals _ rfl) (fuel_start P.m hM)
  obtain ⟨A, c, hov⟩ := slice_of' h.objs
  have hc := h.blk.cell 1 _ rfl
  rw [hov] at hc
  have hc1 := more hc
  have HE := Lib.hid hE
  have HH := Lib.hid h
  have HB := Lib.hid hB
  have HI := Lib.hid (Inv.start h.out roots)
  have HF := Lib.hid ((fuel_start P.m hM).each h.out roots)
  clear hE h hl hB hov
  go_enter Tryd.func71, Tryd.ntmps71
  go_wp2_with fail
  refine HE.out.mono ?_
  rintro e W1 ⟨rfl, hd1⟩
  have HD1 := Lib.hid hd1
  clear hd1
  go_wp2_with fail
  go_loopg [] (2 * unm (eachS ob ⟨fun _ => false, []⟩ roots).mark P.m + (eachS ob ⟨fun _ => false, []⟩ roots).st.length) (fun k wr => ∃ s : S, Hid (DS w hp w.heap.size (w.heap.size + 1) (w.heap.size + 1 + 1) (w.heap.size + 1 + 1 + 1) P.m P.vals s wr) ∧ Hid (Inv ob roots s) ∧ Hid (Fuel P.m s) ∧ Hid (2 * unm s.mark P.m + s.st.length = k))
  case atStart => exact ⟨_, HD1, HI, HF, rfl⟩
  case round =>
    obtain ⟨s, HDs, HIs, HFs, HK⟩ := hrel
    obtain ⟨mk, st⟩ := s
    obtain ⟨sv, hsb, hown⟩ := HDs.out.stack
    rcases List.eq_nil_or_concat st with hst | ⟨st', n, hst⟩
    · subst hst
      obtain ⟨A0, c0, hsv⟩ := slice_of' hown
      simp only [List.length_nil] at hsv
      subst hsv
      have b1 := hsb.cell 0 _ rfl
      have b2 := HDs.out.blkm.cell 0 _ rfl
      have hfin : Marks w wr ob roots P.m (.slice (some ⟨w.heap.size + 1, 0, none⟩) P.m P.m) := ⟨mk, w.heap.size + 1, rfl, by omega, HDs.out.marks, HIs.out.done⟩
      have HFi := Lib.hid hfin
      have HBe := Lib.hid HDs.out.below
      clear hfin hsb hown HDs HIs HFs HK
      go_wp2_with fail
      go_ret
      exact ⟨⟨_, rfl, HFi.out⟩, HBe.out⟩
    · rw [List.concat_eq_append] at hst
      subst hst
      obtain ⟨gs, cs, hsv⟩ : ∃ gs cs, sv = .slice (some ⟨gs, 0, none⟩) (st'.length + 1) cs := by
        rcases hown.2 with ⟨_, h0⟩ | ⟨g, cap, cur, hv, _⟩
        · simp at h0
        · exact ⟨g, cap, by simpa using hv⟩
      subst hsv
      have hlen : ((S.mk mk (st' ++ [n])).st.length) = st'.length + 1 := by simp
      rw [hlen] at hown
      have hcap : st'.length + 1 ≤ cs ∧ cs ≤ 9223372036854775807 := by
        rcases hown.2 with ⟨h, _⟩ | ⟨g', cap, cur, hh, _, _, h1, h2, _⟩
        · cases h
        · cases hh; exact ⟨h1, by unfold maxLen at h2; omega⟩
      obtain ⟨hcap1, hcap2⟩ := hcap
      obtain ⟨p, hp0⟩ := (HIs.out.sound n (HIs.out.stack n (by simp))).has
      have hnm := HH.out.has hp0
      obtain ⟨v0, hv0, hO⟩ := HH.out.each n hnm
      rw [hp0] at hO
      have hsm := HH.out.small n
      rw [hp0] at hsm
      obtain ⟨t, pv, rfl⟩ := Add.some_iface hO
      have hcell : wr.cell? ⟨gs, st'.length, none⟩ = some (.iface t pv) := by
        refine (Row.of_owns hown).cell st'.length _ ?_
        unfold scells
        simp [hv0]
      have b1 := hsb.cell 0 _ rfl
      have b1f := hsb.free 0
      have hgs : w.heap.size + 1 + 1 + 1 + 1 ≤ gs := (hown.lt gs rfl).1
      have hd2 : DS w hp w.heap.size (w.heap.size + 1) (w.heap.size + 1 + 1) (w.heap.size + 1 + 1 + 1) P.m P.vals ⟨mk, st'⟩ (wr.setCell ⟨w.heap.size + 1 + 1 + 1, 0, none⟩ (.slice (some ⟨gs, 0, none⟩) st'.length cs)) := by
        refine ⟨HDs.out.below.setCell (by show w.heap.size ≤ w.heap.size + 1 + 1 + 1; omega) _, HDs.out.blkh.setOther _ _ (by show w.heap.size + 1 + 1 + 1 ≠ w.heap.size; omega), HDs.out.blkm.setOther _ _ (by show w.heap.size + 1 + 1 + 1 ≠ w.heap.size + 1 + 1; omega), ⟨_, hsb.set 0 _, ?_⟩, HDs.out.marks.setOther _ _ (by show w.heap.size + 1 + 1 + 1 ≠ w.heap.size + 1; omega)⟩
        have h1 := owns_cut hown (m := st'.length) (by omega)
        have e1 : (scells P.vals (st' ++ [n])).take st'.length = scells P.vals st' := by
          unfold scells
          rw [List.map_append]
          exact List.take_left' (by simp)
        rw [e1] at h1
        exact owns_keeps h1 ((Keeps.refl (fun b => b = w.heap.size + 1 + 1 + 1) wr).setCell ⟨w.heap.size + 1 + 1 + 1, 0, none⟩ _ fun _ => rfl) (fun b hb e => by
          simp only [Value.ownBlock, Option.some.injEq] at hb
          omega)
      have hC := contained_any HH.out HB.out n _ p hO hsm ⟨mk, st'⟩ _ hd2 (by have := HFs.out; unfold Fuel at *; simp at *; omega)
      have hI2 := HIs.out.round HH.out.out hp0
      have hw := each_went ob P.m HH.out.out p.words ⟨mk, st'⟩
      have hL := HK.out
      simp only [List.length_append, List.length_singleton] at hL
      have hle := hw.less
      simp only at hle
      have HC := Lib.hid hC
      have HI2 := Lib.hid hI2
      have HF2 := Lib.hid (show Fuel P.m (eachS ob ⟨mk, st'⟩ p.words) by have := HFs.out; unfold Fuel at *; simp at *; omega)
      have HLe := Lib.hid (show 2 * unm (eachS ob ⟨mk, st'⟩ p.words).mark P.m + (eachS ob ⟨mk, st'⟩ p.words).st.length < gk by omega)
      have hst2 : st'.length ≤ 131072 := by have := HFs.out; unfold Fuel at this; simp at this; omega
      clear hC hI2 hw hL hle hd2 hsb hown hlen hnm hv0 hO hsm hp0 HDs HIs HFs HK hgs
      go_wp2_with fail
      refine HC.out.mono ?_
      rintro e W3 ⟨rfl, hd3⟩
      have HD3 := Lib.hid hd3
      clear hd3
      go_wp2_with fail
      go_roundg (2 * unm (eachS ob ⟨mk, st'⟩ p.words).mark P.m + (eachS ob ⟨mk, st'⟩ p.words).st.length)
      case measure => exact HLe.out
      case rel => exact ⟨_, HD3, HI2, HF2, rfl⟩
end Go.Proofs.YtcdlfgggmigcnaaDoor.Visit
