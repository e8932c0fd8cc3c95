/- The contract of Unbind: its walk. -/
import Derived.Test.YtkbdonecbepfnaaVsUnbind
import Derived.Outline
import Derived.Deep.RegionLaw
import Derived.Laws.EntriesVeiled
namespace Go.Proofs.Ytkbdonecbepfnaa.Vs
open Go.RowKit Go.Maps Go.Lib Go.Shelf
open Go.Proofs.Ytkbdonecbepfnaa.Own
set_option maxRecDepth 100000
attribute [local go_sem] Oper.semAt_some

set_option maxHeartbeats 1000000 in
theorem unbind_err {w : World} {base vp : Nat} {s : Vs} {lab : Nat → Option VLab} {P : VParts} (h : VsIs w base vp s lab P) (depth : Int) (hd : ¬ (0 ≤ depth ∧ depth ≤ s.binds.length)) :
    Calls Try.prog 16 #[vptr vp, .int .i64 depth] w fun e w' => e = .returned (.int .i64 3) ∧ VsOk w w' base vp s lab := by
  have hB := box_below w (.cells #[vptr vp] 24)
  have h1 := h.below hB
  have HV := Lib.hid h1.valid
  obtain ⟨A, cap, hbv⟩ := h.bvForm
  obtain ⟨_, _, _, c3'⟩ := h1.blk.four
  have c3 := c3'.trans (congrArg some hbv)
  have v0 := (Blk.new w #[vptr vp] 24).cell 0 _ rfl
  have HF := Lib.hid (VsOk.of h hB)
  obtain ⟨m, hm⟩ : ∃ m, s.binds.length = m := ⟨_, rfl⟩
  rw [hm] at c3 hd
  clear h h1 hB hbv c3' hm
  by_cases h0 : depth < 0
  · go_enter Try.func16, Try.ntmps16
    go_wp2_with fail
    refine HV.out.mono ?_
    rintro e w' ⟨rfl, rfl⟩
    go_wp2_with fail
    go_ret
    exact ⟨rfl, HF.out⟩
  · have h1 : (m : Int) < depth := by omega
    clear hd
    go_enter Try.func16, Try.ntmps16
    go_wp2_with fail
    refine HV.out.mono ?_
    rintro e w' ⟨rfl, rfl⟩
    go_wp2_with fail
    go_ret
    exact ⟨rfl, HF.out⟩

/-- A piece of code that is left at its end alone. -/
def onlyNormal (Q : Exit → Act → World → Prop) : Exit → Act → World → Prop
  | .normal, a, w => Q .normal a w
  | _, _, _ => False
theorem wpIn_normal {F : Fence} {n : Nat} {P : Program} {c : Code} {Q : Exit → Act → World → Prop} {a : Act} {w : World} (h : c.wpIn F n P (onlyNormal Q) a w) : c.wpIn F n P Q a w :=
  wpIn_mono h fun e a w hq => by cases e <;> first | exact hq | exact hq.elim

/-- Behind the region that cuts the bindings off. -/
def DelCut (W : World) (base vp ws m cap d D : Nat) (A A2 : Option Addr) (L c2 : Nat) (xs : List Value) (y0 y1 y2 : Value) : Exit → Act → World → Prop
  | .normal, a, W' => ∃ (A' : Option Addr) (c' : Nat) (w1 : World), DelEnd W w1 base (.slice A m cap) d xs (.slice A' d c') ∧ Blk w1 vp #[y0, y1, y2, .slice A m cap] 56 ∧ W' = w1.setCell ⟨vp, 3, none⟩ (.slice A' d c') ∧
      a = { tmps := #[vptr vp, Value.int IntKind.i64 (d : Int), Value.pointer (some { block := ws, off := 0 }), undef, Value.int IntKind.i64 0, undef, undef, vptr vp, Value.bool true, Value.bool false, Value.int IntKind.i64 (d : Int), Value.bool (decide ((d : Int) < 0)), Value.bool (decide ((d : Int) < 0)), Value.int IntKind.i64 (d : Int), vptr vp, Value.pointer (some { block := vp, off := 0 }), Value.pointer (some { block := vp, off := 3 }), Value.slice A m cap, Value.int IntKind.i64 (m : Int), Value.bool false, Value.bool (decide ((d : Int) < 0)), vptr vp, Value.pointer (some { block := vp, off := 0 }), Value.pointer (some { block := vp, off := 3 }), Value.slice A m cap, Value.int IntKind.i64 (d : Int), Value.slice A2 L c2, Value.func (Fn.func 56) #[] #[ptr (ws + 1)], undef, undef, undef, undef, undef, undef, undef, undef, vptr vp, vptr vp, Value.pointer (some { block := vp, off := 0 }), Value.pointer (some { block := vp, off := 3 }), Value.slice A m cap, Value.int IntKind.i64 (d : Int), vptr vp, Value.pointer (some { block := vp, off := 0 }), Value.pointer (some { block := vp, off := 3 }), Value.slice A m cap, Value.int IntKind.i64 (m : Int), Value.slice A' d c', Value.pointer (some { block := vp, off := 0 }), Value.pointer (some { block := vp, off := 3 })], defers := [{ target := Target.collected D, args := #[] }] }
  | _, _, _ => False

/-- Between two rounds. -/
structure Mid (W0 W : World) (base vp ws : Nat) (s : Vs) (lab : Nat → Option VLab) (P : VParts) (l : List Bd) : Prop where
  is : VsIs W base vp (undoL s l) lab P
  keeps : Keeps (CellOf lab) W0 W
  box : Blk W ws #[vptr vp] 24
theorem Mid.own {W0 : World} {base vp ws : Nat} {s : Vs} {lab : Nat → Option VLab} {P : VParts} (hin : ∀ b l, lab b = some l → b < W0.heap.size) (hws : ws < W0.heap.size) (f : List Nat → List Bd) : OwnFrom W0.heap.size (fun pre W => Mid W0 W base vp ws s lab P (f pre)) := by
  intro pre W W' row h hg hr
  have hk : Keeps (fun b => row = some b) W W' := (Keeps.refl _ _).grown hg fun k e _ => e
  have hF : ∀ b, row = some b → W0.heap.size ≤ b := fun b e => (hr b e).1
  exact ⟨h.is.keeps hk fun b e => by
      cases hl : lab b with
      | none => rfl
      | some x => have := hin b x hl; have := hF b e; omega,
    h.keeps.grown hg fun k e hlt => by have := hF k e; omega, h.box.keeps hk fun e => by have := hF ws e; omega⟩

set_option maxHeartbeats 8000000 in
/-- Unbind where the number is in range, whatever its tail of bindings is. -/
theorem unbind_gen {w : World} {base vp : Nat} {s : Vs} {lab : Nat → Option VLab} {P : VParts} (h : VsIs w base vp s lab P) (hgood : Good s) (d m cap g L c2 : Nat) (A A2 : Option Addr) (hm : s.binds.length = m) (hdm : d ≤ m) (hbv : P.bv = .slice A m cap) (hL : L = m - d) (hgl0 : g < w.heap.size) (hglab : 0 < L → lab g = some .binds)
    (hsl : ∀ W, (Instr.slice 54 (.slice A m cap) (some (.int .i64 (d : Int))) none none).run Try.prog W = .ok (.slice A2 L c2) W)
    (hstops : ∀ W0, Below w.heap.size w W0 → w.heap.size + 1 < W0.heap.size → W0.cell? ⟨w.heap.size + 1, 0, none⟩ = some (.slice A2 L c2) → VsIs W0 base vp s lab P →
      SeqStopsK Fence.wide 2 Try.prog 56 #[ptr (w.heap.size + 1)] (fun j : Nat => #[.int .i64 (j : Int), bdv (bdAt s.binds (ix d L j)) (P.bx (ix d L j))]) (KeepB g (w.heap.size + 1)) (fun ys => ys = dn L 0) (fun _ => True) L W0) :
    Calls Try.prog 16 #[vptr vp, .int .i64 (d : Int)] w fun e w' => e = .returned (.int .i64 0) ∧ VsOk w w' base vp ⟨(undoL s (s.binds.drop d).reverse).has, (undoL s (s.binds.drop d).reverse).cells, (undoL s (s.binds.drop d).reverse).marks, (undoL s (s.binds.drop d).reverse).scope, s.binds.take d⟩ lab := by
  refine (callsIn_wide (n := 3)).1 ?_
  have hm2 := h.many
  have hB := box_below w (.cells #[vptr vp] 24)
  have h1 := h.below hB
  have HV := Lib.hid (h1.valid.mono (R' := fun e w' => e = .returned (.bool true) ∧ w.alloc (.cells #[vptr vp] 24) = w') fun _ _ h => h)
  obtain ⟨_, _, _, c3'⟩ := h1.blk.four
  have c3 := c3'.trans (congrArg some hbv)
  have v0 := (Blk.new w #[vptr vp] 24).cell 0 _ rfl
  have hdm' : ¬ (m : Int) < (d : Int) := by omega
  have HST := Lib.hid hstops
  have hL1 : L + d ≤ m := by omega
  have hL2 : m ≤ L + d := by omega
  have HL := Lib.hid hL
  clear hstops hL
  refine callsIn_of_wp_marks Try.func16 rfl trivial ?_ rfl
  simp only [Try.ntmps16, List.size_toArray, List.length_cons, List.length_nil, Nat.reduceAdd, Nat.reduceSub, Array.replicate_succ, Array.replicate_zero, List.push_toArray, List.append_toArray, List.nil_append, List.cons_append]
  gi_wp2_with (first
    | (refine ⟨trivial, ?_⟩; gi_at_call 35; refine (callsIn_wide.2 HV.out).mono ?_; rintro e w' ⟨rfl, rfl⟩)
    | (refine ⟨trivial, ?_⟩; gi_at_call 44; refine (backward_any _ _ trivial rfl _ _ _ _).mono ?_; rintro e w' ⟨rfl, rfl⟩))
  have hB2 := below_two w (.cells #[vptr vp] 24) (.cells #[.slice A2 L c2] 54)
  have h2 := h.below hB2
  obtain ⟨bx1, bx2⟩ := two_boxes w #[vptr vp] #[.slice A2 L c2] 24 54
  have hin : ∀ b l, lab b = some l → b < w.heap.size := fun b l hl => (h.inb b l hl).2
  have hz0 : ((w.alloc (.cells #[vptr vp] 24)).alloc (.cells #[.slice A2 L c2] 54)).heap.size = w.heap.size + 1 + 1 := by simp
  obtain ⟨W0, hW0⟩ : ∃ W0, (w.alloc (.cells #[vptr vp] 24)).alloc (.cells #[.slice A2 L c2] 54) = W0 := ⟨_, rfl⟩
  rw [hW0] at h2 hB2 bx1 bx2 hz0 ⊢
  clear hW0
  have hgl : g < W0.heap.size := by omega
  have hBs := bx2.cell 0 _ rfl
  have hst0 := HST.out W0 hB2 (by omega) hBs h2
  have hM0 : Mid W0 W0 base vp w.heap.size s lab P [] := ⟨h2, .refl _ _, bx1⟩
  refine wpIn_rangeFunc_ownH rfl (by omega) (gf := 56) (lb := #[ptr (w.heap.size + 1)]) rfl trivial (enters_of Try.func56 (by kernel_rfl) rfl)
    hst0 (fun h k => KeepB.t h k) (KeepB.b hgl (show w.heap.size + 1 < W0.heap.size by omega)) (Below.refl _ _) (fun _ => rfl)
    (fun pre W => Mid W0 W base vp w.heap.size s lab P (pre.map fun j => bdAt s.binds (ix d L j)))
    (fun _ _ _ => False)
    (Mid.own (fun b l hl => by have := hin b l hl; omega) (by omega) fun pre => pre.map fun j => bdAt s.binds (ix d L j)) (fun _ _ _ _ _ hs _ _ => hs) hM0
    (fun j a' W => ∃ Bx : Nat, Blk W Bx #[.int .i64 (bdAt s.binds (ix d L j)).old.1.1, .int .i64 (bdAt s.binds (ix d L j)).old.1.2, .bool (bdAt s.binds (ix d L j)).old.2, undoer (P.bx (ix d L j))] 65 ∧ a' = { tmps := #[vptr vp, Value.int IntKind.i64 (d : Int), Value.pointer (some { block := w.heap.size, off := 0 }), undef, Value.int IntKind.i64 0, undef, ptr Bx, vptr vp, Value.bool true, Value.bool false, Value.int IntKind.i64 (d : Int), Value.bool (decide ((d : Int) < 0)), Value.bool (decide ((d : Int) < 0)), Value.int IntKind.i64 (d : Int), vptr vp, Value.pointer (some { block := vp, off := 0 }), Value.pointer (some { block := vp, off := 3 }), Value.slice A m cap, Value.int IntKind.i64 (m : Int), Value.bool false, Value.bool (decide ((d : Int) < 0)), vptr vp, Value.pointer (some { block := vp, off := 0 }), Value.pointer (some { block := vp, off := 3 }), Value.slice A m cap, Value.int IntKind.i64 (d : Int), Value.slice A2 L c2, Value.func (Fn.func 56) #[] #[ptr (w.heap.size + 1)], .int .i64 (j : Int), bdv (bdAt s.binds (ix d L j)) (P.bx (ix d L j)), undef, undef, undef, undef, undef, undef, undef, undef, undef, undef, undef, undef, undef, undef, undef, undef, undef, undef, undef, undef], defers := [] })
    (fun j a' => ?ax) ?assign ?body ?done ?stop
  case ax =>
    rintro _ W W' row ⟨Bx, hb, e⟩ hg hr
    exact ⟨Bx, hb.keeps ((Keeps.refl (fun b => row = some b) W).grown hg fun k e _ => e) (fun e => by
      obtain ⟨_, o, ho, hc⟩ := hr Bx e
      rw [show W.heap[Bx]? = _ from hb] at ho
      cases ho
      cases hc), e⟩
  case assign =>
    intro l pre j W K hM hK
    gi_wp2
    refine hK _ _ ((KeepsOthers.alloc _ _).from _) ?_ ?_ ⟨W.heap.size, Blk.new _ _ _, rfl⟩
    · exact ⟨Below.heap_alloc _ _ _ (Nat.lt_of_lt_of_le hgl hM.keeps.size), Below.heap_alloc _ _ _ (by have := hM.keeps.size; omega)⟩
    · exact ⟨hM.is.alloc _, hM.keeps.alloc _, hM.box.alloc _⟩
  case body =>
    rintro l pre j a' W hl ⟨r, hr⟩ hM ⟨Bx, hBx, rfl⟩ hlt
    obtain ⟨i, hi⟩ : ∃ i, ix d L j = i := ⟨_, rfl⟩
    have hLp : 0 < L := by omega
    have hil : ix d L j < s.binds.length := by unfold ix; split <;> omega
    rw [hi] at hBx hil ⊢
    have hbi := bdAt_some hil
    have hmem := List.mem_of_getElem? hbi
    obtain ⟨b, hb⟩ : ∃ b, bdAt s.binds i = b := ⟨_, rfl⟩
    rw [hb] at hBx hbi hmem ⊢
    have hbi2 : (undoL s (pre.map fun j => bdAt s.binds (ix d L j))).binds[i]? = some b := by rw [undoL_binds]; exact hbi
    obtain ⟨hbn, hbk⟩ := h.bok b hmem
    have HU := Lib.hid (undo_any hM.is b hbn hbk (fun e => undoL_some _ _ _ _ (hgood b hmem e)) (hM.is.kbox i b hbi2).2 (hM.is.nbox i b hbi2).2)
    have v1 := hM.box.cell 0 _ rfl
    obtain ⟨b0, b1, b2, b3⟩ := hBx.four
    have HM := Lib.hid hM
    have HI := Lib.hid hi
    have HB := Lib.hid hb
    clear hM hBx hbi hmem hb hbi2 hbn hbk hi
    gi_wp2_with (refine ⟨trivial, ?_⟩; gi_at_call 41; refine (CallsIn.inRound l (callsIn_wide.2 HU.out)).mono ?_; rintro e w' ⟨rfl, hu⟩)
    have hM := HM.out
    have hws : lab w.heap.size = none := h.fresh (Nat.le_refl _)
    have hws1 : lab (w.heap.size + 1) = none := h.fresh (Nat.le_succ _)
    have hsz := hM.keeps.size
    have e : (pre ++ [j]).map (fun j => bdAt s.binds (ix d L j)) = pre.map (fun j => bdAt s.binds (ix d L j)) ++ [b] := by rw [List.map_append, List.map_singleton, HI.out, HB.out]
    refine ⟨hu.others.from _, ⟨hu.keeps.block g (by omega) (fun ⟨k, n, e⟩ => by rw [hglab (by omega)] at e; cases e), hu.keeps.block (w.heap.size + 1) (by omega) (fun ⟨k, n, e⟩ => by rw [hws1] at e; cases e)⟩, ?_⟩
    show Mid W0 w' base vp w.heap.size s lab P ((pre ++ [j]).map fun j => bdAt s.binds (ix d L j))
    rw [e]
    exact ⟨by rw [undoL_snoc]; exact hu.is, hM.keeps.trans hu.keeps, hM.box.keeps hu.keeps (fun ⟨k, n, e⟩ => by rw [hws] at e; cases e)⟩
  case done =>
    rintro D ys W hD rfl hM hK
    have hbs := dn_binds s.binds d
    rw [hm, ← HL.out] at hbs
    rw [hbs] at hM
    obtain ⟨s2, hs2⟩ : ∃ s2, undoL s (s.binds.drop d).reverse = s2 := ⟨_, rfl⟩
    have hsb : s2.binds = s.binds := by rw [← hs2, undoL_binds]
    have hI : VsIs W base vp s2 lab P := by rw [← hs2]; exact hM.is
    have hown3 := hI.binds
    rw [hbv, hsb, hm] at hown3
    have hblk : Blk W vp #[.map (some P.cb), .map (some P.mb), .int .i64 s2.scope, .slice A m cap] 56 := by
      rw [← hbv]
      exact hI.blk
    have hgv : ¬ ((Value.slice A m cap).ownBlock = some vp) := fun e => by have := h.notHdr; rw [hbv] at this; exact this e
    have hgw : ¬ ((Value.slice A m cap).ownBlock = some w.heap.size) := fun e => by have := hin _ _ (h.blab _ (by rw [hbv]; exact e)); omega
    have HDl := Lib.hid (fun W1 (hW : Below W.heap.size W W1) => (delete_any (owns_below hown3 hW) (by omega) hdm).mono (R' := fun e w1 => ∃ A' c', e = .returned (.slice A' d c') ∧ DelEnd W w1 base (.slice A m cap) d (bcells s.binds P.bx 0) (.slice A' d c') ∧ Blk w1 vp #[.map (some P.cb), .map (some P.mb), .int .i64 s2.scope, .slice A m cap] 56 ∧ Blk w1 w.heap.size #[vptr vp] 24) (fun e w1 ⟨sv', he, hE⟩ => by
      obtain ⟨A', c', rfl⟩ := hE.cap
      have hE2 : DelEnd W w1 base (.slice A m cap) d (bcells s.binds P.bx 0) (.slice A' d c') := ⟨hE.row, (Keeps.of_below hW).trans hE.keeps, hE.place, hE.cap⟩
      exact ⟨A', c', he, hE2, hblk.keeps hE2.keeps hgv, hM.box.keeps hE2.keeps hgw⟩))
    have HBl := Lib.hid hblk
    have HM := Lib.hid hM
    have HS2 := Lib.hid hsb
    have HSs := Lib.hid hs2
    have HI := Lib.hid hI
    have HK := Lib.hid hK
    have v1 := hM.box.cell 0 _ rfl
    have k3 := hblk.cell 3 _ rfl
    have hmx : Try.prog.follows .mixedOrders = true := by kernel_rfl
    clear hI hM hown3 hblk hsb hs2 hbs hK hBs hM0 bx1 bx2 v0 c3 c3' h1 h2 hst0 hsl
    gi_wp2
    refine wpIn_mono (Q := DelCut W base vp w.heap.size m cap d D A A2 L c2 (bcells s.binds P.bx 0) (.map (some P.cb)) (.map (some P.mb)) (.int .i64 s2.scope)) ?region fun e a W' hq => ?behind
    case region =>
      gi_region_with_o ((refine ⟨trivial, ?_⟩; gi_at_call 45; refine (callsIn_wide.2 (HDl.out _ (by first | exact Below.refl _ _ | exact (Below.refl _ _).drew))).mono ?_; rintro e w1 ⟨A', c', rfl, hE, hb9, hv9⟩; have v9 := hv9.cell 0 _ rfl; have k9 := hb9.cell 3 _ rfl; have f9 := hb9.free 3; have HE := Lib.hid hE; have HB9 := Lib.hid hb9; clear hE hb9))
      all_goals exact ⟨_, _, _, HE.out, HB9.out, rfl, rfl⟩
    case behind =>
      cases e <;> try exact hq.elim
      obtain ⟨A', c', w1, hE, hb9, rfl, rfl⟩ := hq
      have HE := Lib.hid hE
      have HB9 := Lib.hid hb9
      clear hE hb9
      obtain ⟨hc1, hc2⟩ := HI.out.cut (d := d) (by rw [HS2.out]; omega) (by rw [hbv, HS2.out]; exact HE.out) ((Keeps.refl (fun b => b = vp) w1).setCell ⟨vp, 3, none⟩ (.slice A' d c') fun _ => rfl) (by simpa using HB9.out.set 3 (.slice A' d c'))
      have hDf : lab D = none := h.fresh (by omega)
      have hDl : D < W.heap.size := (Array.getElem?_eq_some_iff.1 HK.out).1
      have hKD : (w1.setCell ⟨vp, 3, none⟩ (.slice A' d c')).heap[D]? = some (.deferred (some [])) := (hc2.block D hDl (fun e => e.1 hDf)).trans HK.out
      have hkD : Keeps (fun b => b = D) (w1.setCell ⟨vp, 3, none⟩ (.slice A' d c')) ((w1.setCell ⟨vp, 3, none⟩ (.slice A' d c')).putObj D (.deferred none)) := (Keeps.refl (fun b => b = D) _).grown (grownBy_putObj' _ D _) fun k e _ => by cases e; rfl
      have hok : VsOk w ((w1.setCell ⟨vp, 3, none⟩ (.slice A' d c')).putObj D (.deferred none)) base vp ⟨s2.has, s2.cells, s2.marks, s2.scope, s2.binds.take d⟩ lab :=
        ⟨lab, _, hc1.keeps hkD (fun b e => by rw [e]; exact hDf), ⟨(((Keeps.of_below hB2).trans (HM.out.keeps.mono fun b _ ⟨k, n, e⟩ => by unfold VOf; rw [e]; simp)).trans hc2).then hkD (fun b hb e => by omega), fun b hb => .inl hb⟩⟩
      rw [HS2.out] at hok
      have HF := Lib.hid hok
      have HKD := Lib.hid hKD
      clear hc1 hc2 hKD hkD hok k3 v1
      show Exit.then _ _ Exit.normal _ _
      gi_wp2
      refine ⟨by simp, .inl ⟨_, _, rfl, run_takeDeferred HKD.out, ?_⟩⟩
      exact ⟨_, results_tmp rfl _ _ _, rfl, by rw [HSs.out]; exact HF.out⟩
  case stop =>
    rintro D c pre W _ _ h
    exact h.elim
end Go.Proofs.Ytkbdonecbepfnaa.Vs
