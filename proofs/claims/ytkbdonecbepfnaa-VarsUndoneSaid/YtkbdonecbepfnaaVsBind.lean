/- The contract of Bind. -/
import Derived.Test.YtkbdonecbepfnaaVsCalls2
import Derived.Test.YtkbdonecbepfnaaAppend
import Derived.Deep.RegionLaw
namespace Go.Proofs.Ytkbdonecbepfnaa.Vs
open Go.RowKit Go.Maps Go.Lib
open Go.Proofs.Ytkbdonecbepfnaa.Own
set_option maxRecDepth 100000

/-- A block that is no part of the variables is named as a box. -/
theorem VsIs.named {w : World} {base vp g : Nat} {s : Vs} {lab : Nat → Option VLab} {P : VParts} (h : VsIs w base vp s lab P) (hg : lab g = none) (hgb : base ≤ g) (hgl : g < w.heap.size) : VsIs w base vp s (fun b => if b = g then some .box else lab b) P := by
  have hG : ∀ b l, lab b = some l → (if b = g then some VLab.box else lab b) = some l := fun b l hx => by
    rw [if_neg (fun e : b = g => by rw [e, hg] at hx; cases hx)]
    exact hx
  exact { h with
    inb := fun b l hb => by
      by_cases e : b = g
      · subst e
        exact ⟨hgb, hgl⟩
      · rw [if_neg e] at hb
        exact h.inb b l hb
    hdr := hG _ _ h.hdr
    clab := hG _ _ h.clab
    mlab := hG _ _ h.mlab
    ilab := fun k hk => hG _ _ (h.ilab k hk)
    cclab := fun k n c hc => hG _ _ (h.cclab k n c hc)
    blab := fun b hb => hG _ _ (h.blab b hb)
    kbox := fun i b hb => ⟨hG _ _ (h.kbox i b hb).1, (h.kbox i b hb).2⟩
    nbox := fun i b hb => ⟨hG _ _ (h.nbox i b hb).1, (h.nbox i b hb).2⟩ }

/-- What a push onto the bindings leaves. -/
structure PushEnd (w w' : World) (base vp m : Nat) (sv sv' c0 c1 c2 : Value) (xs : List Value) : Prop where
  blk : Blk w' vp #[c0, c1, c2, sv'] 56
  row : w'.ownsRow base 65 4 sv' m xs
  keeps : Keeps (fun b => b = vp ∨ sv.ownBlock = some b) w w'
  place : ∀ b, sv'.ownBlock = some b → sv.ownBlock = some b ∨ w.heap.size ≤ b

theorem keeps_pushN {w W w1 : World} {o : Obj} {row : Option Nat} (hg : W.grownBy w1 row) (h1 : W.heap = (w.alloc o).heap) (h2 : W.os = w.os) (h3 : W.tape = w.tape) (h4 : W.output = w.output) : Keeps (fun b => row = some b) w w1 :=
  ⟨hg.os.trans h2, hg.tape.trans h3, hg.output.trans h4, by have := hg.size; rw [h1] at this; simp at this; omega, fun k hk hn => by
    have hs : W.heap.size = w.heap.size + 1 := by rw [h1]; simp
    rw [hg.block k (by omega) fun e => hn e.symm, h1]
    exact Below.heap_alloc _ _ _ hk⟩
theorem push_fin {w w9 w10 : World} {base vp m c' : Nat} {A' : Option Addr} {o : Obj} {sv c0 c1 c2 : Value} {xs : List Value} (hB : Blk w vp #[c0, c1, c2, sv] 56) (hne : sv.ownBlock ≠ some vp) (hb : Below w.heap.size w w9)
    (hap : Appended (w9.alloc o) w10 base 65 4 sv (.slice A' m c') m xs) :
    PushEnd w (w10.setCell ⟨vp, 3, none⟩ (.slice A' m c')) base vp m sv (.slice A' m c') c0 c1 c2 xs := by
  have hk : Keeps (fun b => sv.ownBlock = some b) w w10 := (Keeps.of_below hb).trans (keeps_pushN (w := w9) (o := o) hap.grown rfl rfl rfl rfl)
  have hpl : ∀ b, (Value.slice A' m c').ownBlock = some b → sv.ownBlock = some b ∨ w.heap.size ≤ b := fun b e => by
    rcases hap.place b e with h | h
    · exact .inl h
    · exact .inr (by subst h; have := hb.size; simp; omega)
  have hB1 := hB.keeps hk hne
  have hne2 : (Value.slice A' m c').ownBlock ≠ some vp := fun e => by
    rcases hpl vp e with h | h
    · exact hne h
    · have := hB.lt; omega
  exact ⟨hB1.set 3 _, owns_keeps hap.row ((Keeps.refl (fun b => b = vp) w10).setCell ⟨vp, 3, none⟩ _ fun _ => rfl) fun b hb e => hne2 (e ▸ hb), (hk.mono fun b _ e => .inr e).setCell ⟨vp, 3, none⟩ _ fun _ => .inl rfl, hpl⟩

theorem VsIs.notHdr {w : World} {base vp : Nat} {s : Vs} {lab : Nat → Option VLab} {P : VParts} (h : VsIs w base vp s lab P) : P.bv.ownBlock ≠ some vp := fun e => by
  have := h.blab vp e
  rw [h.hdr] at this
  cases this
/-- The labels behind a push. -/
def labP (n : Nat) (v : Value) (lab : Nat → Option VLab) (b : Nat) : Option VLab := if n ≤ b then (if v.ownBlock = some b then some .binds else none) else lab b

/-- A binding is pushed. -/
theorem VsIs.pushed {w w' : World} {base vp : Nat} {s : Vs} {lab : Nat → Option VLab} {P : VParts} (h : VsIs w base vp s lab P) (_hb0 : base ≤ w.heap.size) (b : Bd) (x : Nat × Nat) (sv' : Value) (hm : s.binds.length < 2000) (hbn : 0 ≤ b.n ∧ b.n < 16384) (hbk : 0 ≤ b.k ∧ b.k ≤ 65536)
    (hx1 : lab x.1 = some .box) (hx2 : lab x.2 = some .box) (hB1 : Blk w x.1 #[.int .i64 b.k] 3) (hB2 : Blk w x.2 #[.int .i64 b.n] 3)
    (hE : PushEnd w w' base vp (s.binds.length + 1) P.bv sv' (.map (some P.cb)) (.map (some P.mb)) (.int .i64 s.scope) (bcells s.binds P.bx 0 ++ bdCells b x)) :
    VsOk w w' base vp ⟨s.has, s.cells, s.marks, s.scope, s.binds ++ [b]⟩ lab := by
  have hF : ∀ g l, lab g = some l → l ≠ .hdr → l ≠ .binds → ¬ (g = vp ∨ P.bv.ownBlock = some g) := fun g l hg h1 h2 e => by
    rcases e with e | e
    · rw [e, h.hdr] at hg
      cases hg
      exact h1 rfl
    · rw [h.blab g e] at hg
      cases hg
      exact h2 rfl
  have hL : ∀ g l, lab g = some l → labP w.heap.size sv' lab g = some l := fun g l hg => by
    unfold labP
    rw [if_neg (by have := (h.inb g l hg).2; omega)]
    exact hg
  refine ⟨labP w.heap.size sv' lab, ⟨P.cb, P.mb, P.im, P.cl, sv', fun i => if i = s.binds.length then x else P.bx i⟩, ?_, ⟨hE.keeps.mono fun g _ e => ?_, fun g hg => ?_⟩⟩
  · refine {
      inb := fun g l hg => ?_
      hdr := hL _ _ h.hdr
      blk := hE.blk
      clab := hL _ _ h.clab
      mlab := hL _ _ h.mlab
      outer := h.outer.keeps hE.keeps (hF _ _ h.clab (by simp) (by simp))
      ilab := fun k hk => hL _ _ (h.ilab k hk)
      inner := fun k hk => (h.inner k hk).keeps hE.keeps (hF _ _ (h.ilab k hk) (by simp) (by simp))
      chas := h.chas
      cclab := fun k n c hc => hL _ _ (h.cclab k n c hc)
      cell := fun k n c hc => (h.cell k n c hc).keeps hE.keeps (hF _ _ (h.cclab k n c hc) (by simp) (by simp))
      marks := h.marks.keeps hE.keeps (hF _ _ h.mlab (by simp) (by simp))
      mok := h.mok
      binds := ?_
      blab := fun g hg => ?_
      kbox := fun i d hd => ?_
      nbox := fun i d hd => ?_
      bok := fun d hd => ?_
      sok := h.sok
      many := by simp; omega }
    · unfold labP at hg
      split at hg
      · split at hg
        · rename_i h1 h2
          have := hE.row.lt g h2
          exact ⟨by omega, this.2⟩
        · cases hg
      · exact ⟨(h.inb g l hg).1, Nat.lt_of_lt_of_le (h.inb g l hg).2 hE.keeps.size⟩
    · have hr := hE.row
      show w'.ownsRow base _ 4 sv' (s.binds ++ [b]).length (bcells (s.binds ++ [b]) (fun i => if i = s.binds.length then x else P.bx i) 0)
      rw [bcells_append, Nat.zero_add, if_pos rfl, List.length_append, bcells_congr s.binds (fun i => if i = s.binds.length then x else P.bx i) P.bx 0 fun i hi => by rw [Nat.zero_add, if_neg (by omega)]]
      exact hr
    · unfold labP
      rcases hE.place g hg with h1 | h1
      · rw [if_neg (by have := (h.inb g _ (h.blab g h1)).2; omega)]
        exact h.blab g h1
      · rw [if_pos h1, if_pos hg]
    · by_cases e : i = s.binds.length
      · subst e
        simp at hd
        subst hd
        simp only [if_true]
        exact ⟨hL _ _ hx1, hB1.keeps hE.keeps (hF _ _ hx1 (by simp) (by simp))⟩
      · have hd' : s.binds[i]? = some d := by
          rcases Nat.lt_or_ge i s.binds.length with hi | hi
          · rwa [List.getElem?_append_left hi] at hd
          · rw [List.getElem?_eq_none (by simp; omega)] at hd
            cases hd
        simp only [if_neg e]
        exact ⟨hL _ _ (h.kbox i d hd').1, (h.kbox i d hd').2.keeps hE.keeps (hF _ _ (h.kbox i d hd').1 (by simp) (by simp))⟩
    · by_cases e : i = s.binds.length
      · subst e
        simp at hd
        subst hd
        simp only [if_true]
        exact ⟨hL _ _ hx2, hB2.keeps hE.keeps (hF _ _ hx2 (by simp) (by simp))⟩
      · have hd' : s.binds[i]? = some d := by
          rcases Nat.lt_or_ge i s.binds.length with hi | hi
          · rwa [List.getElem?_append_left hi] at hd
          · rw [List.getElem?_eq_none (by simp; omega)] at hd
            cases hd
        simp only [if_neg e]
        exact ⟨hL _ _ (h.nbox i d hd').1, (h.nbox i d hd').2.keeps hE.keeps (hF _ _ (h.nbox i d hd').1 (by simp) (by simp))⟩
    · rcases List.mem_append.1 hd with hd | hd
      · exact h.bok d hd
      · simp at hd
        subst hd
        exact ⟨hbn, hbk⟩
  · unfold VOf
    rcases e with e | e
    · rw [e, h.hdr]
      simp
    · rw [h.blab g e]
      simp
  · unfold VOf labP at hg
    split at hg
    · rename_i h1
      exact .inr h1
    · exact .inl hg

def bindO (s : Vs) (n : Int) (x : Wd) : Int × Vs :=
  if changeO s n = 0 then
    (if 2000 ≤ s.binds.length then (12, s) else (0, putC ⟨s.has, s.cells, s.marks, s.scope, s.binds ++ [⟨contentO s n (homeO s n), n, homeO s n⟩]⟩ n (homeO s n) (x, true)))
  else (changeO s n, s)
abbrev ibox (n : Int) : Obj := .cells #[.int .i64 n] 3
theorem bind_info : (Try.prog.info? 65).map (fun i => (i.zero, i.size, i.bytes)) = some (some (.agg #[.int .i64 0, .int .i64 0, .bool false, .nilFunc]), 4, 32) := by kernel_rfl
/-- The cells of a binding that was built. -/
theorem bd_new (w : World) (b : Bd) (x : Nat × Nat) : ∀ j u, (bdCells b x)[j]? = some u → (w.alloc (.cells #[.int .i64 b.old.1.1, .int .i64 b.old.1.2, .bool b.old.2, undoer x] 65)).cell? ((⟨w.heap.size, 0, none⟩ : Addr).add j) = some u := by
  intro j u hj
  have h := Blk.new w #[.int .i64 b.old.1.1, .int .i64 b.old.1.2, .bool b.old.2, undoer x] 65
  rcases j with _ | _ | _ | _ | j
  · simp [bdCells] at hj; subst hj; exact h.cell 0 _ rfl
  · simp [bdCells] at hj; subst hj; exact h.cell 1 _ rfl
  · simp [bdCells] at hj; subst hj; exact h.cell 2 _ rfl
  · simp [bdCells] at hj; subst hj; exact h.cell 3 _ rfl
  · simp [bdCells] at hj
theorem two_boxes (w : World) (a b : Array Value) (t u : TypeId) : Blk ((w.alloc (.cells a t)).alloc (.cells b u)) w.heap.size a t ∧ Blk ((w.alloc (.cells a t)).alloc (.cells b u)) (w.heap.size + 1) b u := two_new (Below.refl _ _)
theorem three_boxes (w : World) (a b c : Array Value) (t u v : TypeId) : Blk (((w.alloc (.cells a t)).alloc (.cells b u)).alloc (.cells c v)) w.heap.size a t ∧ Blk (((w.alloc (.cells a t)).alloc (.cells b u)).alloc (.cells c v)) (w.heap.size + 1) b u ∧ Blk (((w.alloc (.cells a t)).alloc (.cells b u)).alloc (.cells c v)) (w.heap.size + 1 + 1) c v := three_new (Below.refl _ _)
theorem below_two (w : World) (a b : Obj) : Below w.heap.size w ((w.alloc a).alloc b) := ((Below.refl _ _).alloc (Nat.le_refl _) _).alloc (by simp) _
theorem below_three (w : World) (a b c : Obj) : Below w.heap.size w (((w.alloc a).alloc b).alloc c) := (below_two w a b).alloc (by simp; omega) _
set_option maxHeartbeats 1000000 in
theorem bind_err {w : World} {base vp : Nat} {s : Vs} {lab : Nat → Option VLab} {P : VParts} (h : VsIs w base vp s lab P) (n : Int) (x : Wd) (hn : Wf n) (e : changeO s n = 8 ∨ changeO s n = 10) :
    Calls Try.prog 13 #[vptr vp, .int .i64 n, wdv x] w fun e w' => e = .returned (.int .i64 (changeO s n)) ∧ VsOk w w' base vp s lab := by
  have hB := below_two w (ibox n) (wbox x)
  have HC := Lib.hid (checkChange_any (h.below hB) n hn)
  have HF := Lib.hid (VsOk.of h hB)
  have c0 := (two_boxes w #[.int .i64 n] #[.int .i64 x.1, .int .i64 x.2] 3 29).1.cell 0 _ rfl
  clear h hB hn
  rcases e with e | e
  all_goals
    rw [e] at HC ⊢
    clear e
    go_enter Try.func13, Try.ntmps13
    go_wp2_with fail
    refine HC.out.mono ?_
    rintro e w' ⟨rfl, rfl⟩
    go_wp2_with fail
    go_ret
    exact ⟨rfl, HF.out⟩
set_option maxHeartbeats 1000000 in
theorem bind_full {w : World} {base vp : Nat} {s : Vs} {lab : Nat → Option VLab} {P : VParts} (h : VsIs w base vp s lab P) (n : Int) (x : Wd) (hn : Wf n) (e : changeO s n = 0) (hm : 2000 ≤ s.binds.length) :
    Calls Try.prog 13 #[vptr vp, .int .i64 n, wdv x] w fun e w' => e = .returned (.int .i64 12) ∧ VsOk w w' base vp s lab := by
  have hB := below_two w (ibox n) (wbox x)
  have HC := Lib.hid (checkChange_any (h.below hB) n hn)
  have HF := Lib.hid (VsOk.of h hB)
  have c0 := (two_boxes w #[.int .i64 n] #[.int .i64 x.1, .int .i64 x.2] 3 29).1.cell 0 _ rfl
  obtain ⟨A, cap, hbv⟩ := h.bvForm
  obtain ⟨_, _, _, d3'⟩ := (h.below hB).blk.four
  have d3 := d3'.trans (congrArg some hbv)
  obtain ⟨m, hm'⟩ : ∃ m, s.binds.length = m := ⟨_, rfl⟩
  rw [hm'] at d3 hm
  have hz : (2000 : Int) ≤ (m : Int) := by omega
  rw [e] at HC
  clear h hB hn e d3' hbv hm'
  go_enter Try.func13, Try.ntmps13
  go_wp2_with fail
  refine HC.out.mono ?_
  rintro e w' ⟨rfl, rfl⟩
  go_wp2_with fail
  go_ret
  exact ⟨rfl, HF.out⟩
/-- The variables behind the push of Bind, and its boxes. -/
theorem bind_after {w W : World} {base vp m : Nat} {s : Vs} {lab : Nat → Option VLab} {P : VParts} (hb : base ≤ w.heap.size) (n k : Int) (x : Wd) (c : Cl) (A : Option Addr) (cap : Nat) (sv' : Value) (h3 : VsIs (((w.alloc (ibox n)).alloc (wbox x)).alloc (ibox k)) base vp s lab P) (hw : ∀ b, w.heap.size ≤ b → lab b = none)
    (hn : 0 ≤ n ∧ n < 16384) (hk : 0 ≤ k ∧ k ≤ 65536) (hm' : s.binds.length = m) (hm : m < 2000) (hbv : P.bv = .slice A m cap)
    (hE : PushEnd (((w.alloc (ibox n)).alloc (wbox x)).alloc (ibox k)) W base vp (m + 1) (.slice A m cap) sv' (.map (some P.cb)) (.map (some P.mb)) (.int .i64 s.scope) (bcells s.binds P.bx 0 ++ bdCells ⟨c, n, k⟩ (w.heap.size + 1 + 1, w.heap.size))) :
    VsOk w W base vp ⟨s.has, s.cells, s.marks, s.scope, s.binds ++ [⟨c, n, k⟩]⟩ lab ∧ Blk W w.heap.size #[.int .i64 n] 3 ∧ Blk W (w.heap.size + 1) #[.int .i64 x.1, .int .i64 x.2] 29 ∧ Blk W (w.heap.size + 1 + 1) #[.int .i64 k] 3 := by
  subst hm'
  obtain ⟨B1, B2, B3⟩ := three_boxes w #[.int .i64 n] #[.int .i64 x.1, .int .i64 x.2] #[.int .i64 k] 3 29 3
  have hB3 := below_three w (ibox n) (wbox x) (ibox k)
  have hsz : (((w.alloc (ibox n)).alloc (wbox x)).alloc (ibox k)).heap.size = w.heap.size + 1 + 1 + 1 := by simp
  have h4 := h3.named (g := w.heap.size) (hw _ (Nat.le_refl _)) hb (by omega)
  have h5 := h4.named (g := w.heap.size + 1 + 1) (by rw [if_neg (by omega)]; exact hw _ (by omega)) (by omega) (by omega)
  have hF : ∀ b, w.heap.size ≤ b → ¬ (b = vp ∨ (Value.slice A s.binds.length cap).ownBlock = some b) := fun b hb e => by
    rcases e with e | e
    · have := hw b hb
      rw [e, h3.hdr] at this
      cases this
    · have := hw b hb
      rw [h3.blab b (by rw [hbv]; exact e)] at this
      cases this
  have hok := h5.pushed (by omega) ⟨c, n, k⟩ (w.heap.size + 1 + 1, w.heap.size) sv' hm hn hk (by simp) (by simp) B3 B1 (by rw [hbv]; exact hE)
  obtain ⟨lab', P', hI, hA⟩ := hok
  exact ⟨⟨lab', P', hI, (((VAfter.below hB3).name (Nat.le_refl _)).name (by omega)).trans hA⟩, B1.keeps hE.keeps (hF _ (Nat.le_refl _)), B2.keeps hE.keeps (hF _ (by omega)), B3.keeps hE.keeps (hF _ (by omega))⟩
set_option maxHeartbeats 4000000 in
theorem bind_ok {w : World} {base vp : Nat} {s : Vs} {lab : Nat → Option VLab} {P : VParts} (h : VsIs w base vp s lab P) (hb : base ≤ w.heap.size) (n : Int) (x : Wd) (e : changeO s n = 0) (hn : 0 ≤ n ∧ n < 16384) (hm : s.binds.length < 2000) :
    Calls Try.prog 13 #[vptr vp, .int .i64 n, wdv x] w fun e w' => e = .returned (.int .i64 0) ∧ VsOk w w' base vp (putC ⟨s.has, s.cells, s.marks, s.scope, s.binds ++ [⟨contentO s n (homeO s n), n, homeO s n⟩]⟩ n (homeO s n) (x, true)) lab := by
  obtain ⟨i0, hi, hz0, hz1, hz2⟩ := info_parts bind_info
  have HI := Lib.hid hi
  have HZ0 := Lib.hid hz0
  have HZ1 := Lib.hid hz1
  have HZ2 := Lib.hid hz2
  have hwn : Wf n := by unfold Wf; omega
  have hB := below_two w (ibox n) (wbox x)
  have h2 := h.below hB
  have HC := Lib.hid (checkChange_any h2 n hwn)
  rw [e] at HC
  have HH := Lib.hid (home_any h2 n hwn)
  have hho := homeO_ok h n
  obtain ⟨k, hk⟩ : ∃ k, homeO s n = k := ⟨_, rfl⟩
  rw [hk] at HH hho ⊢
  obtain ⟨c, hc⟩ : ∃ c, contentO s n k = c := ⟨_, rfl⟩
  have hB3 := below_three w (ibox n) (wbox x) (ibox k)
  have h3 := h.below hB3
  obtain ⟨A, cap, hbv⟩ := h.bvForm
  obtain ⟨m, hm'⟩ : ∃ m, s.binds.length = m := ⟨_, rfl⟩
  obtain ⟨_, _, _, d3'⟩ := h2.blk.four
  have d3 := d3'.trans (congrArg some hbv)
  rw [hm'] at d3 hm hbv
  have hz : ¬ (2000 : Int) ≤ (m : Int) := by omega
  have c0 := (two_boxes w #[.int .i64 n] #[.int .i64 x.1, .int .i64 x.2] 3 29).1.cell 0 _ rfl
  obtain ⟨B1, B2, B3⟩ := three_boxes w #[.int .i64 n] #[.int .i64 x.1, .int .i64 x.2] #[.int .i64 k] 3 29 3
  have k0 := B1.cell 0 _ rfl
  have k2 := B3.cell 0 _ rfl
  have hblk : Blk (((w.alloc (ibox n)).alloc (wbox x)).alloc (ibox k)) vp #[.map (some P.cb), .map (some P.mb), .int .i64 s.scope, .slice A m cap] 56 := by
    rw [← hbv]
    exact h3.blk
  have k3 := hblk.cell 3 _ rfl
  have hown := h3.binds
  have hne := h3.notHdr
  rw [hbv, hm'] at hown
  rw [hbv] at hne
  have HT := Lib.hid (fun W (hW : Below (((w.alloc (ibox n)).alloc (wbox x)).alloc (ibox k)).heap.size (((w.alloc (ibox n)).alloc (wbox x)).alloc (ibox k)) W) => content_any (h3.below hW) n k hwn (by unfold Wf; omega))
  rw [hc] at HT ⊢
  have HB3 := Lib.hid hB3
  have H3 := Lib.hid h3
  have HBl := Lib.hid hblk
  have HOw := Lib.hid hown
  have HNe := Lib.hid hne
  have HBv := Lib.hid hbv
  have HM := Lib.hid hm'
  have HN := Lib.hid hn
  have HK := Lib.hid hho
  have HC0 := Lib.hid hc
  have HBs := Lib.hid (⟨B1, B2, B3⟩ : _ ∧ _ ∧ _)
  have Hb := Lib.hid hb
  have H3' := Lib.hid h
  have HW := Lib.hid (fun b (hb : w.heap.size ≤ b) => h.fresh hb)
  have hmx : Try.prog.follows .mixedOrders = true := by kernel_rfl
  clear h h2 h3 hB hB3 e hk hblk hown hne d3' hbv hm' hn hwn hho hi hz0 hz1 hz2 hc B1 B2 B3 hb
  go_enter Try.func13, Try.ntmps13
  go_wp2_with fail
  refine HC.out.mono ?_
  rintro e w' ⟨rfl, rfl⟩
  go_wp2_with fail
  refine HH.out.mono ?_
  rintro e w' ⟨rfl, rfl⟩
  clear c0 d3
  go_wp2_with fail
  go_region_law ((first
    | (have tok9 := HC9; clear tok9; refine step_append_place rfl (.tmp 30) (.tmp 37) 54 rfl base 65 i0 (.agg #[.int .i64 0, .int .i64 0, .bool false, .nilFunc]) 4 32 Try.underlying54 HI.out HZ0.out HZ1.out HZ2.out rfl (by decide) (.slice A m cap) m (bcells s.binds P.bx 0) rfl (by exact (owns_below HOw.out HC9.out).alloc _) ⟨_, 0, none⟩ 1 1 (bdCells ⟨c, n, k⟩ (w.heap.size + 1 + 1, w.heap.size)) (by rfl) rfl (bd_new _ ⟨c, n, k⟩ (w.heap.size + 1 + 1, w.heap.size)) (bdCells_one _ _) (by unfold maxLen; omega) (by omega) (by have := HC9.out.size; have := Hb.out; simp at *; omega) ⟨vp, 3, none⟩ (.slice A m cap) (((HBl.out.below HC9.out).alloc _).cell 3 _ rfl) (((HBl.out.below HC9.out).alloc _).free 3) (fun e => HNe.out e.symm) ?_; intro A' c' w10 hap hcp hfp; have HAp := Lib.hid hap; clear hap)
    | (go_simp; go_at_call 42; refine (HT.out _ (by exact (Below.refl _ _).drew)).mono ?_; rintro e w9 ⟨rfl, hb9⟩; have HC9 := Lib.hid ((Below.refl (((w.alloc (ibox n)).alloc (wbox x)).alloc (ibox k)).heap.size (((w.alloc (ibox n)).alloc (wbox x)).alloc (ibox k))).drew.trans hb9); have c9 := (HBl.out.below HC9.out).cell 3 _ rfl; have c10 := more c9; clear hb9)))
  all_goals (
    obtain ⟨⟨lab2, P2, hI2, hA2⟩, D1, D2, D3⟩ := bind_after Hb.out n k x c A cap _ H3.out HW.out HN.out HK.out HM.out hm HBv.out (push_fin HBl.out HNe.out HC9.out HAp.out)
    have HS := Lib.hid (store_any hI2 (Nat.le_trans Hb.out (VAfter.bel H3'.out Hb.out hA2).size) n k (x, true) HN.out HK.out)
    have HA := Lib.hid hA2
    have u0 := D1.cell 0 _ rfl
    have u1 := D2.cell 0 _ rfl
    have u2 := D2.cell 1 _ rfl
    have u3 := D3.cell 0 _ rfl
    clear hI2 hA2 D1 D2 D3 k0 k2 k3 c9 c10 hcp hfp
    go_wp2_with fail
    refine HS.out.mono ?_
    rintro e w' ⟨rfl, lab3, P3, hI3, hA3⟩
    have HF := Lib.hid (show VsOk w w' base vp _ lab from ⟨lab3, P3, hI3, HA.out.trans hA3⟩)
    clear hI3 hA3 u0 u1 u2 u3
    go_wp2_with fail
    go_ret
    exact ⟨rfl, HF.out⟩)
/-- The contract of Bind. -/
theorem bind_any {w : World} {base vp : Nat} {s : Vs} {lab : Nat → Option VLab} {P : VParts} (h : VsIs w base vp s lab P) (hb : base ≤ w.heap.size) (n : Int) (x : Wd) (hn : Wf n) :
    Calls Try.prog 13 #[vptr vp, .int .i64 n, wdv x] w fun e w' => e = .returned (.int .i64 (bindO s n x).1) ∧ VsOk w w' base vp (bindO s n x).2 lab := by
  unfold bindO
  rcases changeO_cases s n with ⟨e, hr⟩ | e
  · rw [if_pos e]
    by_cases hm : 2000 ≤ s.binds.length
    · rw [if_pos hm]
      exact bind_full h n x hn e hm
    · rw [if_neg hm]
      exact bind_ok h hb n x e hr (by omega)
  · rw [if_neg (by omega)]
    exact bind_err h n x hn e
end Go.Proofs.Ytkbdonecbepfnaa.Vs
