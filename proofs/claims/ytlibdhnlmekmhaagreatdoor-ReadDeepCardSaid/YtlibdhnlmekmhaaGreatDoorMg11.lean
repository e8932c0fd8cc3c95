/- The contracts of (*Heap).place and add over a heap. -/
import Derived.Deep.RegionWith
import Derived.IntWalk
import Derived.Test.YtlibdhnlmekmhaaGreatDoorMg08
import Derived.Test.YtlibdhnlmekmhaaGreatDoorMg10
namespace Go.Proofs.YtlibdhnlmekmhaaGreatDoor.Add
set_option maxRecDepth 100000
open Go.RowKit
open Go.Proofs.YtlibdhnlmekmhaaGreatDoor.Own Go.Proofs.YtlibdhnlmekmhaaGreatDoor.Hp Go.Proofs.YtlibdhnlmekmhaaGreatDoor.HeapOrd Go.Proofs.YtlibdhnlmekmhaaGreatDoor.Rep Go.Proofs.YtlibdhnlmekmhaaGreatDoor.Base Go.Proofs.YtlibdhnlmekmhaaGreatDoor.Get Go.Proofs.YtlibdhnlmekmhaaGreatDoor.Meth Go.Proofs.YtlibdhnlmekmhaaGreatDoor.Quick Go.Proofs.YtlibdhnlmekmhaaGreatDoor.Size Go.Proofs.YtlibdhnlmekmhaaGreatDoor.Nums Go.Proofs.YtlibdhnlmekmhaaGreatDoor.Place

/-- What a change of a heap keeps: all blocks but the heap's own. -/
structure After (w w' : World) (lab lab' : Nat → Option Lab) : Prop where
  keeps : Keeps (Of lab) w w'
  grow : ∀ b, Of lab' b → Of lab b ∨ w.heap.size ≤ b
theorem After.refl (w : World) (lab : Nat → Option Lab) : After w w lab lab := ⟨.refl _ _, fun _ h => .inl h⟩
theorem After.trans {a b c : World} {l m n : Nat → Option Lab} (h : After a b l m) (k : After b c m n) : After a c l n :=
  ⟨h.keeps.then k.keeps fun x hx hf => by rcases h.grow x hf with h1 | h1; exact h1; omega, fun x hx => by
    rcases k.grow x hx with h1 | h1
    · exact h.grow x h1
    · exact .inr (Nat.le_trans h.keeps.size h1)⟩
theorem After.below {a b : World} {l : Nat → Option Lab} (h : Below a.heap.size a b) : After a b l l := ⟨.of_below h, fun _ h => .inl h⟩

theorem some_iface {w : World} {lab : Nat → Option Lab} {n : Nat} {v : Value} {o : Ob} (h : ObAt w lab n v (some o)) : ∃ t p, v = .iface t p := by
  cases o with
  | cons a d => obtain ⟨g, rfl, _⟩ := h; exact ⟨_, _, rfl⟩
  | text s k => obtain ⟨g, rfl, _⟩ := h; exact ⟨_, _, rfl⟩
  | vec l => obtain ⟨g, r, rfl, _⟩ := h; exact ⟨_, _, rfl⟩
  | code p q z b l => obtain ⟨g, rb, rl, rfl, _⟩ := h; exact ⟨_, _, rfl⟩

/-- What place leaves. -/
def PlaceOk (w w' : World) (base hp lim : Nat) (ob : Obs) (lab : Nat → Option Lab) (o : Ob) (u : Value) : Prop :=
  ∃ lab' P', HeapU w' base hp lim (put ob (freeTo ob lim) (some o)) lab' P' u ∧ After w w' lab lab'
theorem place_any {w : World} {base hp lim : Nat} {ob : Obs} {lab : Nat → Option Lab} {P : Parts} {u v : Value} {o : Ob} (h : HeapU w base hp lim ob lab P u) (hb : base ≤ w.heap.size) (hfull : freeTo ob lim < lim)
    (ho : ObAt w lab (freeTo ob lim) v (some o)) (hs : Small (some o)) :
    Calls Tryz.prog 157 #[ptr hp, v] w fun e w' => e = .returned (.int .i64 (freeTo ob lim : Int)) ∧ PlaceOk w w' base hp lim ob lab o u := by
  obtain ⟨ti, pv, rfl⟩ := some_iface ho
  have hm := h.m
  have hl2 := h.lim2
  by_cases hnf : P.nf = 0
  · have he := h.free_end hnf hfull
    have hlt := h.notFull hfull hnf
    obtain ⟨A, c, hfv⟩ := slice_of' h.free
    rw [hnf] at hfv
    have hne : P.ov.ownBlock ≠ some hp := fun e => by have := h.olab hp e; rw [h.hdr] at this; cases this
    have hB := h.blk
    rw [hfv] at hB
    unfold PlaceOk
    rw [he] at ho ⊢
    refine (place_end base hp P.m c A ti _ u P.ov pv P.vals w (by omega) hB h.objs hb hne).mono ?_
    rintro e w' ⟨rfl, ov', hp'⟩
    rw [← hfv] at hp'
    refine ⟨rfl, _, _, h.placeEnd hnf hlt hp'.blk hp'.row hp'.keeps hp'.place hb ho hs, ?_, ?_⟩
    · exact hp'.keeps.mono fun k hk e => by
        rcases e with e | e
        · subst e; unfold Of; rw [h.hdr]; simp
        · unfold Of; rw [h.olab k e]; simp
    · intro b hb'
      have hb' : (if ov'.ownBlock = some b then some Lab.objs else lab b) ≠ none := hb'
      split at hb'
      · rename_i e
        rcases hp'.place b e with e | e
        · exact .inl (by unfold Of; rw [h.olab b e]; simp)
        · exact .inr e
      · exact .inl hb'
  · obtain ⟨n, hn⟩ : ∃ n, P.nf = n + 1 := ⟨P.nf - 1, by omega⟩
    obtain ⟨he, hf0, hfn⟩ := h.free_hole (by omega)
    obtain ⟨go, co, hov⟩ : ∃ go co, P.ov = .slice (some ⟨go, 0, none⟩) P.m co := by
      rcases h.objs.2 with ⟨_, h0⟩ | ⟨g, cap, cur, hv, _⟩
      · omega
      · exact ⟨g, cap, hv⟩
    obtain ⟨g, c, hfv⟩ : ∃ g c, P.fv = .slice (some ⟨g, 0, none⟩) (n + 1) c := by
      rcases h.free.2 with ⟨_, h0⟩ | ⟨g, cap, cur, hv, _⟩
      · omega
      · exact ⟨g, cap, by rw [hv, hn]⟩
    have lo : lab go = some .objs := h.olab go (by rw [hov]; rfl)
    have lf : lab g = some .free := h.flab g (by rw [hfv]; rfl)
    have hB := h.blk
    rw [hfv, hov] at hB
    have hobj := h.objs
    rw [hov] at hobj
    have hfree := h.free
    rw [hfv, hn] at hfree
    have hord := h.ord
    rw [hn] at hord
    have hnm : P.nf ≤ 65536 := by
      have h1 := count_of_row P.f P.nf P.m (fun x => (ob x).isNone) h.inj fun x => by rw [h.holes x]; simp
      have h2 := List.length_filter_le (fun x => (ob x).isNone) (List.range P.m)
      rw [List.length_range] at h2
      omega
    unfold PlaceOk
    rw [he] at ho ⊢
    refine (place_hole base hp P.m n g c go co ti _ u pv P.vals P.f w (by omega) (by omega) hB hobj hfree (fun e => by subst e; rw [h.hdr] at lf; cases lf) (fun e => by subst e; rw [h.hdr] at lo; cases lo) (fun e => by subst e; rw [lf] at lo; cases lo) hord hf0).mono ?_
    rintro e w' ⟨rfl, f', hp'⟩
    refine ⟨rfl, _, _, h.placeHole hn hov hfv hp'.blk hp'.row hp'.free hp'.keeps hp'.sames hp'.last hp'.ord ho hs, ?_, fun b hb => .inl hb⟩
    exact hp'.keeps.mono fun k hk e => by
      rcases e with e | e | e
      · subst e; unfold Of; rw [h.hdr]; simp
      · subst e; unfold Of; rw [lf]; simp
      · subst e; unfold Of; rw [lo]; simp


set_option maxHeartbeats 4000000 in
theorem add_full (hp lim : Nat) (v : Value) (w : World) (hM : Draws w 25 #[ptr hp] (.int .i64 (lim : Int)))
   (h0 : w.cell? ⟨hp, 0, none⟩ = some (.int .i64 (lim : Int))) :
   Calls Tryz.prog 105 #[ptr hp, v] w fun e w' => e = .returned (.tuple #[wd (0, 0), .int .i64 7]) ∧ Below w.heap.size w w' := by
  have hb1 : Below w.heap.size w (w.alloc (.cells #[.int .i64 0, .int .i64 0] 28)) := (Below.refl _ _).alloc (Nat.le_refl _) _
  have hQ := fun q => hM.quiet (Go.Proofs.YtlibdhnlmekmhaaGreatDoor.Own.below_drewN hb1 q)
  have HQ := Lib.hid hQ
  have h01 := more h0
  clear hM hQ
  go_enter Tryz.func105, Tryz.ntmps105
  go_wp2
  go_quiet ((go_at_call 25; exact HQ.out _))
  go_wp2
  refine bodyPost_ret (v := .tuple #[wd (0, 0), .int .i64 7]) (by simp [results, Tryz.results105, go_sem]) rfl ⟨rfl, ?_⟩
  exact ((Go.Proofs.YtlibdhnlmekmhaaGreatDoor.Own.below_drewN hb1 _).setCell (by simp) _).setCell (by simp) _

set_option maxHeartbeats 4000000 in
theorem add_cons_over (hp lim M u g s : Nat) (w : World) (hM : Draws w 25 #[ptr hp] (.int .i64 (M : Int))) (hR : Draws w 155 #[ptr hp] (.int .i64 (1048576 - (u : Int)))) (hS : Draws w 286 #[ptr g] (.int .i64 (s : Int)))
    (_hu : u ≤ 1048576) (_hs0 : s ≤ 1048576) (hml : M < lim) (h0 : w.cell? ⟨hp, 0, none⟩ = some (.int .i64 (lim : Int))) (hov : 1048576 < u + s) :
    Calls Tryz.prog 105 #[ptr hp, .iface 93 (ptr g)] w fun e w' => e = .returned (.tuple #[wd (0, 0), .int .i64 7]) ∧ Below w.heap.size w w' := by
  have hb1 : Below w.heap.size w (w.alloc (.cells #[.int .i64 0, .int .i64 0] 28)) := (Below.refl _ _).alloc (Nat.le_refl _) _
  have HQ := Lib.hid (fun q => hM.quiet (Go.Proofs.YtlibdhnlmekmhaaGreatDoor.Own.below_drewN hb1 q))
  have HQR := Lib.hid (fun q => hR.quiet (Go.Proofs.YtlibdhnlmekmhaaGreatDoor.Own.below_drewN hb1 q))
  have HQS := Lib.hid (fun q => hS.quiet (Go.Proofs.YtlibdhnlmekmhaaGreatDoor.Own.below_drewN hb1 q))
  have hm := fun w => meth_cons ⟨g, 0, none⟩ w
  have h01 := more h0
  have hd : (M == lim) = false := beq_eq_false_iff_ne.2 (by omega)
  have hd0 : ((M : Int) == (lim : Int)) = false := beq_eq_false_iff_ne.2 (by omega)
  have hd2 : decide (1048576 - (u : Int) < s) = true := decide_eq_true (by omega)
  clear hM hR hS
  go_enter Tryz.func105, Tryz.ntmps105
  go_wp2
  go_quiet ((first | (go_at_call 25; exact HQ.out _) | (go_at_call 155; exact HQR.out _) | (go_at_call 286; exact HQS.out _)))
  go_wp2
  refine bodyPost_ret (v := .tuple #[wd (0, 0), .int .i64 7]) (by simp [results, Tryz.results105, go_sem]) rfl ⟨rfl, ?_⟩
  exact ((Go.Proofs.YtlibdhnlmekmhaaGreatDoor.Own.below_drewN hb1 _).setCell (by simp) _).setCell (by simp) _

set_option maxHeartbeats 8000000 in
theorem add_cons_fits (hp lim M u g s n : Nat) (Pok : World → World → Prop) (w : World) (hM : Draws w 25 #[ptr hp] (.int .i64 (M : Int))) (hR : Draws w 155 #[ptr hp] (.int .i64 (1048576 - (u : Int)))) (hS : Draws w 286 #[ptr g] (.int .i64 (s : Int)))
    (hu : u ≤ 1048576) (hs0 : s ≤ 1048576) (hml : M < lim) (h0 : w.cell? ⟨hp, 0, none⟩ = some (.int .i64 (lim : Int))) (hov : u + s ≤ 1048576)
    (h3 : w.cell? ⟨hp, 3, none⟩ = some (.int .i64 (u : Int))) (hf : w.frozen? ⟨hp, 3, none⟩ = false)
    (hP : ∀ q w1, w1 = ((w.alloc (.cells #[.int .i64 0, .int .i64 0] 28)).drewN q).setCell ⟨hp, 3, none⟩ (.int .i64 ((u : Int) + s)) → Calls Tryz.prog 157 #[ptr hp, .iface 93 (ptr g)] w1 fun e w2 => e = .returned (.int .i64 (n : Int)) ∧ Blk w2 w.heap.size #[.int .i64 0, .int .i64 0] 28 ∧ Pok w1 w2) :
    Calls Tryz.prog 105 #[ptr hp, .iface 93 (ptr g)] w fun e w' => e = .returned (.tuple #[wd (2, (n : Int)), .int .i64 0]) ∧ ∃ q w2, Pok (((w.alloc (.cells #[.int .i64 0, .int .i64 0] 28)).drewN q).setCell ⟨hp, 3, none⟩ (.int .i64 ((u : Int) + s))) w2 ∧ w' = (w2.setCell ⟨w.heap.size, 0, none⟩ (.int .i64 2)).setCell ⟨w.heap.size, 1, none⟩ (.int .i64 (n : Int)) := by
  have hb1 : Below w.heap.size w (w.alloc (.cells #[.int .i64 0, .int .i64 0] 28)) := (Below.refl _ _).alloc (Nat.le_refl _) _
  have HQ := Lib.hid (fun q => hM.quiet (Go.Proofs.YtlibdhnlmekmhaaGreatDoor.Own.below_drewN hb1 q))
  have HQR := Lib.hid (fun q => hR.quiet (Go.Proofs.YtlibdhnlmekmhaaGreatDoor.Own.below_drewN hb1 q))
  have HQS := Lib.hid (fun q => hS.quiet (Go.Proofs.YtlibdhnlmekmhaaGreatDoor.Own.below_drewN hb1 q))
  have hm := fun w => meth_cons ⟨g, 0, none⟩ w
  have h01 := more h0
  have hd : (M == lim) = false := beq_eq_false_iff_ne.2 (by omega)
  have hd0 : ((M : Int) == (lim : Int)) = false := beq_eq_false_iff_ne.2 (by omega)
  have hd2 : decide (1048576 - (u : Int) < s) = false := decide_eq_false (by omega)
  have h31 := more h3
  have hf1 : ∀ o, (w.alloc o).frozen? ⟨hp, 3, none⟩ = false := fun o => (((Below.refl _ _).alloc (Nat.le_refl _) o).frozen (World.block_lt_of_cell? _ _ h3)).trans hf
  have hw : IntKind.i64.wrap ((u : Int) + (s : Int)) = (u : Int) + (s : Int) := IntWalk.i64_in _ (by omega)
  have HP := Lib.hid hP
  have hS1 := Lib.hid (fun q => hS.out ((w.alloc (.cells #[.int .i64 0, .int .i64 0] 28)).drewN q) (Go.Proofs.YtlibdhnlmekmhaaGreatDoor.Own.below_drewN hb1 q))
  have HK := Lib.hid (fun w => kind_cons (ptr g) w)
  clear hM hR hS hP
  go_enter Tryz.func105, Tryz.ntmps105
  go_wp2
  go_quiet ((first | (go_at_call 25; exact HQ.out _) | (go_at_call 155; exact HQR.out _) | (go_at_call 286; exact HQS.out _)))
  go_wp2
  go_region_with ((go_at_call 286; refine (hS1.out _).mono ?_; rintro e w' ⟨rfl, qs, rfl⟩))
  all_goals
    go_wp2_with (go_at_call 156; refine (HK.out _).mono ?_; rintro e w' ⟨rfl, rfl⟩)
    refine (HP.out _ _ rfl).mono ?_
    rintro e w2 ⟨rfl, hblk, hok⟩
    obtain ⟨b0, b1, e0, e1⟩ := hblk.two
    have HOk := Lib.hid hok
    clear hok hblk
    go_wp2_with fail
    refine bodyPost_ret (v := .tuple #[wd (2, (n : Int)), .int .i64 0]) (by simp [results, Tryz.results105, go_sem, b0, b1]) rfl ⟨rfl, _, w2, HOk.out, rfl⟩

set_option maxHeartbeats 4000000 in
theorem add_text_over (hp lim M u g s : Nat) (w : World) (hM : Draws w 25 #[ptr hp] (.int .i64 (M : Int))) (hR : Draws w 155 #[ptr hp] (.int .i64 (1048576 - (u : Int)))) (hS : Draws w 290 #[ptr g] (.int .i64 (s : Int)))
    (_hu : u ≤ 1048576) (_hs0 : s ≤ 1048576) (hml : M < lim) (h0 : w.cell? ⟨hp, 0, none⟩ = some (.int .i64 (lim : Int))) (hov : 1048576 < u + s) :
    Calls Tryz.prog 105 #[ptr hp, .iface 110 (ptr g)] w fun e w' => e = .returned (.tuple #[wd (0, 0), .int .i64 7]) ∧ Below w.heap.size w w' := by
  have hb1 : Below w.heap.size w (w.alloc (.cells #[.int .i64 0, .int .i64 0] 28)) := (Below.refl _ _).alloc (Nat.le_refl _) _
  have HQ := Lib.hid (fun q => hM.quiet (Go.Proofs.YtlibdhnlmekmhaaGreatDoor.Own.below_drewN hb1 q))
  have HQR := Lib.hid (fun q => hR.quiet (Go.Proofs.YtlibdhnlmekmhaaGreatDoor.Own.below_drewN hb1 q))
  have HQS := Lib.hid (fun q => hS.quiet (Go.Proofs.YtlibdhnlmekmhaaGreatDoor.Own.below_drewN hb1 q))
  have hm := fun w => meth_text ⟨g, 0, none⟩ w
  have h01 := more h0
  have hd : (M == lim) = false := beq_eq_false_iff_ne.2 (by omega)
  have hd0 : ((M : Int) == (lim : Int)) = false := beq_eq_false_iff_ne.2 (by omega)
  have hd2 : decide (1048576 - (u : Int) < s) = true := decide_eq_true (by omega)
  clear hM hR hS
  go_enter Tryz.func105, Tryz.ntmps105
  go_wp2
  go_quiet ((first | (go_at_call 25; exact HQ.out _) | (go_at_call 155; exact HQR.out _) | (go_at_call 290; exact HQS.out _)))
  go_wp2
  refine bodyPost_ret (v := .tuple #[wd (0, 0), .int .i64 7]) (by simp [results, Tryz.results105, go_sem]) rfl ⟨rfl, ?_⟩
  exact ((Go.Proofs.YtlibdhnlmekmhaaGreatDoor.Own.below_drewN hb1 _).setCell (by simp) _).setCell (by simp) _

set_option maxHeartbeats 8000000 in
theorem add_text_fits (hp lim M u g s n : Nat) (Pok : World → World → Prop) (w : World) (hM : Draws w 25 #[ptr hp] (.int .i64 (M : Int))) (hR : Draws w 155 #[ptr hp] (.int .i64 (1048576 - (u : Int)))) (hS : Draws w 290 #[ptr g] (.int .i64 (s : Int)))
    (hu : u ≤ 1048576) (hs0 : s ≤ 1048576) (hml : M < lim) (h0 : w.cell? ⟨hp, 0, none⟩ = some (.int .i64 (lim : Int))) (hov : u + s ≤ 1048576)
    (h3 : w.cell? ⟨hp, 3, none⟩ = some (.int .i64 (u : Int))) (hf : w.frozen? ⟨hp, 3, none⟩ = false)
    (hP : ∀ q w1, w1 = ((w.alloc (.cells #[.int .i64 0, .int .i64 0] 28)).drewN q).setCell ⟨hp, 3, none⟩ (.int .i64 ((u : Int) + s)) → Calls Tryz.prog 157 #[ptr hp, .iface 110 (ptr g)] w1 fun e w2 => e = .returned (.int .i64 (n : Int)) ∧ Blk w2 w.heap.size #[.int .i64 0, .int .i64 0] 28 ∧ Pok w1 w2) :
    Calls Tryz.prog 105 #[ptr hp, .iface 110 (ptr g)] w fun e w' => e = .returned (.tuple #[wd (3, (n : Int)), .int .i64 0]) ∧ ∃ q w2, Pok (((w.alloc (.cells #[.int .i64 0, .int .i64 0] 28)).drewN q).setCell ⟨hp, 3, none⟩ (.int .i64 ((u : Int) + s))) w2 ∧ w' = (w2.setCell ⟨w.heap.size, 0, none⟩ (.int .i64 3)).setCell ⟨w.heap.size, 1, none⟩ (.int .i64 (n : Int)) := by
  have hb1 : Below w.heap.size w (w.alloc (.cells #[.int .i64 0, .int .i64 0] 28)) := (Below.refl _ _).alloc (Nat.le_refl _) _
  have HQ := Lib.hid (fun q => hM.quiet (Go.Proofs.YtlibdhnlmekmhaaGreatDoor.Own.below_drewN hb1 q))
  have HQR := Lib.hid (fun q => hR.quiet (Go.Proofs.YtlibdhnlmekmhaaGreatDoor.Own.below_drewN hb1 q))
  have HQS := Lib.hid (fun q => hS.quiet (Go.Proofs.YtlibdhnlmekmhaaGreatDoor.Own.below_drewN hb1 q))
  have hm := fun w => meth_text ⟨g, 0, none⟩ w
  have h01 := more h0
  have hd : (M == lim) = false := beq_eq_false_iff_ne.2 (by omega)
  have hd0 : ((M : Int) == (lim : Int)) = false := beq_eq_false_iff_ne.2 (by omega)
  have hd2 : decide (1048576 - (u : Int) < s) = false := decide_eq_false (by omega)
  have h31 := more h3
  have hf1 : ∀ o, (w.alloc o).frozen? ⟨hp, 3, none⟩ = false := fun o => (((Below.refl _ _).alloc (Nat.le_refl _) o).frozen (World.block_lt_of_cell? _ _ h3)).trans hf
  have hw : IntKind.i64.wrap ((u : Int) + (s : Int)) = (u : Int) + (s : Int) := IntWalk.i64_in _ (by omega)
  have HP := Lib.hid hP
  have hS1 := Lib.hid (fun q => hS.out ((w.alloc (.cells #[.int .i64 0, .int .i64 0] 28)).drewN q) (Go.Proofs.YtlibdhnlmekmhaaGreatDoor.Own.below_drewN hb1 q))
  have HK := Lib.hid (fun w => kind_text (ptr g) w)
  clear hM hR hS hP
  go_enter Tryz.func105, Tryz.ntmps105
  go_wp2
  go_quiet ((first | (go_at_call 25; exact HQ.out _) | (go_at_call 155; exact HQR.out _) | (go_at_call 290; exact HQS.out _)))
  go_wp2
  go_region_with ((go_at_call 290; refine (hS1.out _).mono ?_; rintro e w' ⟨rfl, qs, rfl⟩))
  all_goals
    go_wp2_with (go_at_call 156; refine (HK.out _).mono ?_; rintro e w' ⟨rfl, rfl⟩)
    refine (HP.out _ _ rfl).mono ?_
    rintro e w2 ⟨rfl, hblk, hok⟩
    obtain ⟨b0, b1, e0, e1⟩ := hblk.two
    have HOk := Lib.hid hok
    clear hok hblk
    go_wp2_with fail
    refine bodyPost_ret (v := .tuple #[wd (3, (n : Int)), .int .i64 0]) (by simp [results, Tryz.results105, go_sem, b0, b1]) rfl ⟨rfl, _, w2, HOk.out, rfl⟩

set_option maxHeartbeats 4000000 in
theorem add_vector_over (hp lim M u g s : Nat) (w : World) (hM : Draws w 25 #[ptr hp] (.int .i64 (M : Int))) (hR : Draws w 155 #[ptr hp] (.int .i64 (1048576 - (u : Int)))) (hS : Draws w 293 #[ptr g] (.int .i64 (s : Int)))
    (_hu : u ≤ 1048576) (_hs0 : s ≤ 1048576) (hml : M < lim) (h0 : w.cell? ⟨hp, 0, none⟩ = some (.int .i64 (lim : Int))) (hov : 1048576 < u + s) :
    Calls Tryz.prog 105 #[ptr hp, .iface 189 (ptr g)] w fun e w' => e = .returned (.tuple #[wd (0, 0), .int .i64 7]) ∧ Below w.heap.size w w' := by
  have hb1 : Below w.heap.size w (w.alloc (.cells #[.int .i64 0, .int .i64 0] 28)) := (Below.refl _ _).alloc (Nat.le_refl _) _
  have HQ := Lib.hid (fun q => hM.quiet (Go.Proofs.YtlibdhnlmekmhaaGreatDoor.Own.below_drewN hb1 q))
  have HQR := Lib.hid (fun q => hR.quiet (Go.Proofs.YtlibdhnlmekmhaaGreatDoor.Own.below_drewN hb1 q))
  have HQS := Lib.hid (fun q => hS.quiet (Go.Proofs.YtlibdhnlmekmhaaGreatDoor.Own.below_drewN hb1 q))
  have hm := fun w => meth_vector ⟨g, 0, none⟩ w
  have h01 := more h0
  have hd : (M == lim) = false := beq_eq_false_iff_ne.2 (by omega)
  have hd0 : ((M : Int) == (lim : Int)) = false := beq_eq_false_iff_ne.2 (by omega)
  have hd2 : decide (1048576 - (u : Int) < s) = true := decide_eq_true (by omega)
  clear hM hR hS
  go_enter Tryz.func105, Tryz.ntmps105
  go_wp2
  go_quiet ((first | (go_at_call 25; exact HQ.out _) | (go_at_call 155; exact HQR.out _) | (go_at_call 293; exact HQS.out _)))
  go_wp2
  refine bodyPost_ret (v := .tuple #[wd (0, 0), .int .i64 7]) (by simp [results, Tryz.results105, go_sem]) rfl ⟨rfl, ?_⟩
  exact ((Go.Proofs.YtlibdhnlmekmhaaGreatDoor.Own.below_drewN hb1 _).setCell (by simp) _).setCell (by simp) _

set_option maxHeartbeats 8000000 in
theorem add_vector_fits (hp lim M u g s n : Nat) (Pok : World → World → Prop) (w : World) (hM : Draws w 25 #[ptr hp] (.int .i64 (M : Int))) (hR : Draws w 155 #[ptr hp] (.int .i64 (1048576 - (u : Int)))) (hS : Draws w 293 #[ptr g] (.int .i64 (s : Int)))
    (hu : u ≤ 1048576) (hs0 : s ≤ 1048576) (hml : M < lim) (h0 : w.cell? ⟨hp, 0, none⟩ = some (.int .i64 (lim : Int))) (hov : u + s ≤ 1048576)
    (h3 : w.cell? ⟨hp, 3, none⟩ = some (.int .i64 (u : Int))) (hf : w.frozen? ⟨hp, 3, none⟩ = false)
    (hP : ∀ q w1, w1 = ((w.alloc (.cells #[.int .i64 0, .int .i64 0] 28)).drewN q).setCell ⟨hp, 3, none⟩ (.int .i64 ((u : Int) + s)) → Calls Tryz.prog 157 #[ptr hp, .iface 189 (ptr g)] w1 fun e w2 => e = .returned (.int .i64 (n : Int)) ∧ Blk w2 w.heap.size #[.int .i64 0, .int .i64 0] 28 ∧ Pok w1 w2) :
    Calls Tryz.prog 105 #[ptr hp, .iface 189 (ptr g)] w fun e w' => e = .returned (.tuple #[wd (4, (n : Int)), .int .i64 0]) ∧ ∃ q w2, Pok (((w.alloc (.cells #[.int .i64 0, .int .i64 0] 28)).drewN q).setCell ⟨hp, 3, none⟩ (.int .i64 ((u : Int) + s))) w2 ∧ w' = (w2.setCell ⟨w.heap.size, 0, none⟩ (.int .i64 4)).setCell ⟨w.heap.size, 1, none⟩ (.int .i64 (n : Int)) := by
  have hb1 : Below w.heap.size w (w.alloc (.cells #[.int .i64 0, .int .i64 0] 28)) := (Below.refl _ _).alloc (Nat.le_refl _) _
  have HQ := Lib.hid (fun q => hM.quiet (Go.Proofs.YtlibdhnlmekmhaaGreatDoor.Own.below_drewN hb1 q))
  have HQR := Lib.hid (fun q => hR.quiet (Go.Proofs.YtlibdhnlmekmhaaGreatDoor.Own.below_drewN hb1 q))
  have HQS := Lib.hid (fun q => hS.quiet (Go.Proofs.YtlibdhnlmekmhaaGreatDoor.Own.below_drewN hb1 q))
  have hm := fun w => meth_vector ⟨g, 0, none⟩ w
  have h01 := more h0
  have hd : (M == lim) = false := beq_eq_false_iff_ne.2 (by omega)
  have hd0 : ((M : Int) == (lim : Int)) = false := beq_eq_false_iff_ne.2 (by omega)
  have hd2 : decide (1048576 - (u : Int) < s) = false := decide_eq_false (by omega)
  have h31 := more h3
  have hf1 : ∀ o, (w.alloc o).frozen? ⟨hp, 3, none⟩ = false := fun o => (((Below.refl _ _).alloc (Nat.le_refl _) o).frozen (World.block_lt_of_cell? _ _ h3)).trans hf
  have hw : IntKind.i64.wrap ((u : Int) + (s : Int)) = (u : Int) + (s : Int) := IntWalk.i64_in _ (by omega)
  have HP := Lib.hid hP
  have hS1 := Lib.hid (fun q => hS.out ((w.alloc (.cells #[.int .i64 0, .int .i64 0] 28)).drewN q) (Go.Proofs.YtlibdhnlmekmhaaGreatDoor.Own.below_drewN hb1 q))
  have HK := Lib.hid (fun w => kind_vector (ptr g) w)
  clear hM hR hS hP
  go_enter Tryz.func105, Tryz.ntmps105
  go_wp2
  go_quiet ((first | (go_at_call 25; exact HQ.out _) | (go_at_call 155; exact HQR.out _) | (go_at_call 293; exact HQS.out _)))
  go_wp2
  go_region_with ((go_at_call 293; refine (hS1.out _).mono ?_; rintro e w' ⟨rfl, qs, rfl⟩))
  all_goals
    go_wp2_with (go_at_call 156; refine (HK.out _).mono ?_; rintro e w' ⟨rfl, rfl⟩)
    refine (HP.out _ _ rfl).mono ?_
    rintro e w2 ⟨rfl, hblk, hok⟩
    obtain ⟨b0, b1, e0, e1⟩ := hblk.two
    have HOk := Lib.hid hok
    clear hok hblk
    go_wp2_with fail
    refine bodyPost_ret (v := .tuple #[wd (4, (n : Int)), .int .i64 0]) (by simp [results, Tryz.results105, go_sem, b0, b1]) rfl ⟨rfl, _, w2, HOk.out, rfl⟩

set_option maxHeartbeats 4000000 in
theorem add_code_over (hp lim M u g s : Nat) (w : World) (hM : Draws w 25 #[ptr hp] (.int .i64 (M : Int))) (hR : Draws w 155 #[ptr hp] (.int .i64 (1048576 - (u : Int)))) (hS : Draws w 294 #[ptr g] (.int .i64 (s : Int)))
    (_hu : u ≤ 1048576) (_hs0 : s ≤ 1048576) (hml : M < lim) (h0 : w.cell? ⟨hp, 0, none⟩ = some (.int .i64 (lim : Int))) (hov : 1048576 < u + s) :
    Calls Tryz.prog 105 #[ptr hp, .iface 190 (ptr g)] w fun e w' => e = .returned (.tuple #[wd (0, 0), .int .i64 7]) ∧ Below w.heap.size w w' := by
  have hb1 : Below w.heap.size w (w.alloc (.cells #[.int .i64 0, .int .i64 0] 28)) := (Below.refl _ _).alloc (Nat.le_refl _) _
  have HQ := Lib.hid (fun q => hM.quiet (Go.Proofs.YtlibdhnlmekmhaaGreatDoor.Own.below_drewN hb1 q))
  have HQR := Lib.hid (fun q => hR.quiet (Go.Proofs.YtlibdhnlmekmhaaGreatDoor.Own.below_drewN hb1 q))
  have HQS := Lib.hid (fun q => hS.quiet (Go.Proofs.YtlibdhnlmekmhaaGreatDoor.Own.below_drewN hb1 q))
  have hm := fun w => meth_code ⟨g, 0, none⟩ w
  have h01 := more h0
  have hd : (M == lim) = false := beq_eq_false_iff_ne.2 (by omega)
  have hd0 : ((M : Int) == (lim : Int)) = false := beq_eq_false_iff_ne.2 (by omega)
  have hd2 : decide (1048576 - (u : Int) < s) = true := decide_eq_true (by omega)
  clear hM hR hS
  go_enter Tryz.func105, Tryz.ntmps105
  go_wp2
  go_quiet ((first | (go_at_call 25; exact HQ.out _) | (go_at_call 155; exact HQR.out _) | (go_at_call 294; exact HQS.out _)))
  go_wp2
  refine bodyPost_ret (v := .tuple #[wd (0, 0), .int .i64 7]) (by simp [results, Tryz.results105, go_sem]) rfl ⟨rfl, ?_⟩
  exact ((Go.Proofs.YtlibdhnlmekmhaaGreatDoor.Own.below_drewN hb1 _).setCell (by simp) _).setCell (by simp) _

set_option maxHeartbeats 8000000 in
theorem add_code_fits (hp lim M u g s n : Nat) (Pok : World → World → Prop) (w : World) (hM : Draws w 25 #[ptr hp] (.int .i64 (M : Int))) (hR : Draws w 155 #[ptr hp] (.int .i64 (1048576 - (u : Int)))) (hS : Draws w 294 #[ptr g] (.int .i64 (s : Int)))
    (hu : u ≤ 1048576) (hs0 : s ≤ 1048576) (hml : M < lim) (h0 : w.cell? ⟨hp, 0, none⟩ = some (.int .i64 (lim : Int))) (hov : u + s ≤ 1048576)
    (h3 : w.cell? ⟨hp, 3, none⟩ = some (.int .i64 (u : Int))) (hf : w.frozen? ⟨hp, 3, none⟩ = false)
    (hP : ∀ q w1, w1 = ((w.alloc (.cells #[.int .i64 0, .int .i64 0] 28)).drewN q).setCell ⟨hp, 3, none⟩ (.int .i64 ((u : Int) + s)) → Calls Tryz.prog 157 #[ptr hp, .iface 190 (ptr g)] w1 fun e w2 => e = .returned (.int .i64 (n : Int)) ∧ Blk w2 w.heap.size #[.int .i64 0, .int .i64 0] 28 ∧ Pok w1 w2) :
    Calls Tryz.prog 105 #[ptr hp, .iface 190 (ptr g)] w fun e w' => e = .returned (.tuple #[wd (6, (n : Int)), .int .i64 0]) ∧ ∃ q w2, Pok (((w.alloc (.cells #[.int .i64 0, .int .i64 0] 28)).drewN q).setCell ⟨hp, 3, none⟩ (.int .i64 ((u : Int) + s))) w2 ∧ w' = (w2.setCell ⟨w.heap.size, 0, none⟩ (.int .i64 6)).setCell ⟨w.heap.size, 1, none⟩ (.int .i64 (n : Int)) := by
  have hb1 : Below w.heap.size w (w.alloc (.cells #[.int .i64 0, .int .i64 0] 28)) := (Below.refl _ _).alloc (Nat.le_refl _) _
  have HQ := Lib.hid (fun q => hM.quiet (Go.Proofs.YtlibdhnlmekmhaaGreatDoor.Own.below_drewN hb1 q))
  have HQR := Lib.hid (fun q => hR.quiet (Go.Proofs.YtlibdhnlmekmhaaGreatDoor.Own.below_drewN hb1 q))
  have HQS := Lib.hid (fun q => hS.quiet (Go.Proofs.YtlibdhnlmekmhaaGreatDoor.Own.below_drewN hb1 q))
  have hm := fun w => meth_code ⟨g, 0, none⟩ w
  have h01 := more h0
  have hd : (M == lim) = false := beq_eq_false_iff_ne.2 (by omega)
  have hd0 : ((M : Int) == (lim : Int)) = false := beq_eq_false_iff_ne.2 (by omega)
  have hd2 : decide (1048576 - (u : Int) < s) = false := decide_eq_false (by omega)
  have h31 := more h3
  have hf1 : ∀ o, (w.alloc o).frozen? ⟨hp, 3, none⟩ = false := fun o => (((Below.refl _ _).alloc (Nat.le_refl _) o).frozen (World.block_lt_of_cell? _ _ h3)).trans hf
  have hw : IntKind.i64.wrap ((u : Int) + (s : Int)) = (u : Int) + (s : Int) := IntWalk.i64_in _ (by omega)
  have HP := Lib.hid hP
  have hS1 := Lib.hid (fun q => hS.out ((w.alloc (.cells #[.int .i64 0, .int .i64 0] 28)).drewN q) (Go.Proofs.YtlibdhnlmekmhaaGreatDoor.Own.below_drewN hb1 q))
  have HK := Lib.hid (fun w => kind_code (ptr g) w)
  clear hM hR hS hP
  go_enter Tryz.func105, Tryz.ntmps105
  go_wp2
  go_quiet ((first | (go_at_call 25; exact HQ.out _) | (go_at_call 155; exact HQR.out _) | (go_at_call 294; exact HQS.out _)))
  go_wp2
  go_region_with ((go_at_call 294; refine (hS1.out _).mono ?_; rintro e w' ⟨rfl, qs, rfl⟩))
  all_goals
    go_wp2_with (go_at_call 156; refine (HK.out _).mono ?_; rintro e w' ⟨rfl, rfl⟩)
    refine (HP.out _ _ rfl).mono ?_
    rintro e w2 ⟨rfl, hblk, hok⟩
    obtain ⟨b0, b1, e0, e1⟩ := hblk.two
    have HOk := Lib.hid hok
    clear hok hblk
    go_wp2_with fail
    refine bodyPost_ret (v := .tuple #[wd (6, (n : Int)), .int .i64 0]) (by simp [results, Tryz.results105, go_sem, b0, b1]) rfl ⟨rfl, _, w2, HOk.out, rfl⟩
end Go.Proofs.YtlibdhnlmekmhaaGreatDoor.Add
