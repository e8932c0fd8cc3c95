/- The contract of (*Heap).remove. -/
import Derived.Test.YtcdlfgggmigcnaaDoorAdd2
namespace Go.Proofs.YtcdlfgggmigcnaaDoor.Remove
set_option maxRecDepth 100000
open Go.RowKit
open Go.Proofs.YtcdlfgggmigcnaaDoor.Own Go.Proofs.YtcdlfgggmigcnaaDoor.Hp Go.Proofs.YtcdlfgggmigcnaaDoor.HeapOrd Go.Proofs.YtcdlfgggmigcnaaDoor.Rep Go.Proofs.YtcdlfgggmigcnaaDoor.Base Go.Proofs.YtcdlfgggmigcnaaDoor.Get Go.Proofs.YtcdlfgggmigcnaaDoor.Meth Go.Proofs.YtcdlfgggmigcnaaDoor.Size Go.Proofs.YtcdlfgggmigcnaaDoor.Nums Go.Proofs.YtcdlfgggmigcnaaDoor.Add

set_option maxHeartbeats 8000000 in
theorem remove_cons (hp go co m u g s n : Nat) (Pok : World → World → Prop) (w : World) (hS : Draws w 160 #[ptr g] (.int .i64 (s : Int))) (hu : u ≤ 1048576) (hsu : s ≤ u) (hn : n < m) (hne : hp ≠ go)
    (h1 : w.cell? ⟨hp, 1, none⟩ = some (.slice (some ⟨go, 0, none⟩) m co)) (h3 : w.cell? ⟨hp, 3, none⟩ = some (.int .i64 (u : Int))) (hf : w.frozen? ⟨hp, 3, none⟩ = false) (hc : w.cell? ⟨go, n, none⟩ = some (.iface 108 (ptr g))) (hfc : w.frozen? ⟨go, n, none⟩ = false)
    (hP : ∀ q w1, w1 = ((w.setCell ⟨hp, 3, none⟩ (.int .i64 ((u : Int) - s))).setCell ⟨go, n, none⟩ .nilIface).drewN q → Calls Tryd.prog 112 #[.pointer (some ⟨hp, 2, none⟩), .int .i64 (n : Int)] w1 fun e w2 => e = .returned (.tuple #[]) ∧ Pok w1 w2) :
    Calls Tryd.prog 72 #[ptr hp, .int .i64 (n : Int)] w fun e w' => e = .returned (.tuple #[]) ∧ ∃ q, Pok (((w.setCell ⟨hp, 3, none⟩ (.int .i64 ((u : Int) - s))).setCell ⟨go, n, none⟩ .nilIface).drewN q) w' := by
  have hm := fun w => meth_cons ⟨g, 0, none⟩ w
  have hw : IntKind.i64.wrap ((u : Int) - (s : Int)) = (u : Int) - (s : Int) := IntWalk.i64_in _ (by omega)
  have HP := Lib.hid hP
  have hS1 := Lib.hid (fun q => hS.out (w.drewN q) (below_drewN (Below.refl _ _) q))
  have hfgo : (w.setCell ⟨hp, 3, none⟩ (.int .i64 ((u : Int) - s))).frozen? ⟨go, n, none⟩ = false := by rw [World.frozen?_of_block (Below.heap_setCell _ _ _ _ (fun e => hne e.symm))]; exact hfc
  have hgo : (w.setCell ⟨hp, 3, none⟩ (.int .i64 ((u : Int) - s))).cell? ⟨go, n, none⟩ = some (.iface 108 (ptr g)) := by rw [World.cell?_of_block (Below.heap_setCell _ _ _ _ (fun e => hne e.symm))]; exact hc
  clear hS hP
  go_enter Tryd.func72, Tryd.ntmps72
  go_wp2
  go_region_with ((go_at_call 160; refine (hS1.out _).mono ?_; rintro e w' ⟨rfl, qs, rfl⟩))
  all_goals
    go_wp2_with fail
    refine (HP.out _ _ (by rfl)).mono ?_
    rintro e w2 ⟨rfl, hok⟩
    have HOk := Lib.hid hok
    clear hok
    go_wp2_with fail
    go_end0
    exact ⟨rfl, _, HOk.out⟩

set_option maxHeartbeats 8000000 in
theorem remove_text (hp go co m u g s n : Nat) (Pok : World → World → Prop) (w : World) (hS : Draws w 161 #[ptr g] (.int .i64 (s : Int))) (hu : u ≤ 1048576) (hsu : s ≤ u) (hn : n < m) (hne : hp ≠ go)
    (h1 : w.cell? ⟨hp, 1, none⟩ = some (.slice (some ⟨go, 0, none⟩) m co)) (h3 : w.cell? ⟨hp, 3, none⟩ = some (.int .i64 (u : Int))) (hf : w.frozen? ⟨hp, 3, none⟩ = false) (hc : w.cell? ⟨go, n, none⟩ = some (.iface 112 (ptr g))) (hfc : w.frozen? ⟨go, n, none⟩ = false)
    (hP : ∀ q w1, w1 = ((w.setCell ⟨hp, 3, none⟩ (.int .i64 ((u : Int) - s))).setCell ⟨go, n, none⟩ .nilIface).drewN q → Calls Tryd.prog 112 #[.pointer (some ⟨hp, 2, none⟩), .int .i64 (n : Int)] w1 fun e w2 => e = .returned (.tuple #[]) ∧ Pok w1 w2) :
    Calls Tryd.prog 72 #[ptr hp, .int .i64 (n : Int)] w fun e w' => e = .returned (.tuple #[]) ∧ ∃ q, Pok (((w.setCell ⟨hp, 3, none⟩ (.int .i64 ((u : Int) - s))).setCell ⟨go, n, none⟩ .nilIface).drewN q) w' := by
  have hm := fun w => meth_text ⟨g, 0, none⟩ w
  have hw : IntKind.i64.wrap ((u : Int) - (s : Int)) = (u : Int) - (s : Int) := IntWalk.i64_in _ (by omega)
  have HP := Lib.hid hP
  have hS1 := Lib.hid (fun q => hS.out (w.drewN q) (below_drewN (Below.refl _ _) q))
  have hfgo : (w.setCell ⟨hp, 3, none⟩ (.int .i64 ((u : Int) - s))).frozen? ⟨go, n, none⟩ = false := by rw [World.frozen?_of_block (Below.heap_setCell _ _ _ _ (fun e => hne e.symm))]; exact hfc
  have hgo : (w.setCell ⟨hp, 3, none⟩ (.int .i64 ((u : Int) - s))).cell? ⟨go, n, none⟩ = some (.iface 112 (ptr g)) := by rw [World.cell?_of_block (Below.heap_setCell _ _ _ _ (fun e => hne e.symm))]; exact hc
  clear hS hP
  go_enter Tryd.func72, Tryd.ntmps72
  go_wp2
  go_region_with ((go_at_call 161; refine (hS1.out _).mono ?_; rintro e w' ⟨rfl, qs, rfl⟩))
  all_goals
    go_wp2_with fail
    refine (HP.out _ _ (by rfl)).mono ?_
    rintro e w2 ⟨rfl, hok⟩
    have HOk := Lib.hid hok
    clear hok
    go_wp2_with fail
    go_end0
    exact ⟨rfl, _, HOk.out⟩

set_option maxHeartbeats 8000000 in
theorem remove_vector (hp go co m u g s n : Nat) (Pok : World → World → Prop) (w : World) (hS : Draws w 162 #[ptr g] (.int .i64 (s : Int))) (hu : u ≤ 1048576) (hsu : s ≤ u) (hn : n < m) (hne : hp ≠ go)
    (h1 : w.cell? ⟨hp, 1, none⟩ = some (.slice (some ⟨go, 0, none⟩) m co)) (h3 : w.cell? ⟨hp, 3, none⟩ = some (.int .i64 (u : Int))) (hf : w.frozen? ⟨hp, 3, none⟩ = false) (hc : w.cell? ⟨go, n, none⟩ = some (.iface 119 (ptr g))) (hfc : w.frozen? ⟨go, n, none⟩ = false)
    (hP : ∀ q w1, w1 = ((w.setCell ⟨hp, 3, none⟩ (.int .i64 ((u : Int) - s))).setCell ⟨go, n, none⟩ .nilIface).drewN q → Calls Tryd.prog 112 #[.pointer (some ⟨hp, 2, none⟩), .int .i64 (n : Int)] w1 fun e w2 => e = .returned (.tuple #[]) ∧ Pok w1 w2) :
    Calls Tryd.prog 72 #[ptr hp, .int .i64 (n : Int)] w fun e w' => e = .returned (.tuple #[]) ∧ ∃ q, Pok (((w.setCell ⟨hp, 3, none⟩ (.int .i64 ((u : Int) - s))).setCell ⟨go, n, none⟩ .nilIface).drewN q) w' := by
  have hm := fun w => meth_vector ⟨g, 0, none⟩ w
  have hw : IntKind.i64.wrap ((u : Int) - (s : Int)) = (u : Int) - (s : Int) := IntWalk.i64_in _ (by omega)
  have HP := Lib.hid hP
  have hS1 := Lib.hid (fun q => hS.out (w.drewN q) (below_drewN (Below.refl _ _) q))
  have hfgo : (w.setCell ⟨hp, 3, none⟩ (.int .i64 ((u : Int) - s))).frozen? ⟨go, n, none⟩ = false := by rw [World.frozen?_of_block (Below.heap_setCell _ _ _ _ (fun e => hne e.symm))]; exact hfc
  have hgo : (w.setCell ⟨hp, 3, none⟩ (.int .i64 ((u : Int) - s))).cell? ⟨go, n, none⟩ = some (.iface 119 (ptr g)) := by rw [World.cell?_of_block (Below.heap_setCell _ _ _ _ (fun e => hne e.symm))]; exact hc
  clear hS hP
  go_enter Tryd.func72, Tryd.ntmps72
  go_wp2
  go_region_with ((go_at_call 162; refine (hS1.out _).mono ?_; rintro e w' ⟨rfl, qs, rfl⟩))
  all_goals
    go_wp2_with fail
    refine (HP.out _ _ (by rfl)).mono ?_
    rintro e w2 ⟨rfl, hok⟩
    have HOk := Lib.hid hok
    clear hok
    go_wp2_with fail
    go_end0
    exact ⟨rfl, _, HOk.out⟩

set_option maxHeartbeats 8000000 in
theorem remove_code (hp go co m u g s n : Nat) (Pok : World → World → Prop) (w : World) (hS : Draws w 163 #[ptr g] (.int .i64 (s : Int))) (hu : u ≤ 1048576) (hsu : s ≤ u) (hn : n < m) (hne : hp ≠ go)
    (h1 : w.cell? ⟨hp, 1, none⟩ = some (.slice (some ⟨go, 0, none⟩) m co)) (h3 : w.cell? ⟨hp, 3, none⟩ = some (.int .i64 (u : Int))) (hf : w.frozen? ⟨hp, 3, none⟩ = false) (hc : w.cell? ⟨go, n, none⟩ = some (.iface 132 (ptr g))) (hfc : w.frozen? ⟨go, n, none⟩ = false)
    (hP : ∀ q w1, w1 = ((w.setCell ⟨hp, 3, none⟩ (.int .i64 ((u : Int) - s))).setCell ⟨go, n, none⟩ .nilIface).drewN q → Calls Tryd.prog 112 #[.pointer (some ⟨hp, 2, none⟩), .int .i64 (n : Int)] w1 fun e w2 => e = .returned (.tuple #[]) ∧ Pok w1 w2) :
    Calls Tryd.prog 72 #[ptr hp, .int .i64 (n : Int)] w fun e w' => e = .returned (.tuple #[]) ∧ ∃ q, Pok (((w.setCell ⟨hp, 3, none⟩ (.int .i64 ((u : Int) - s))).setCell ⟨go, n, none⟩ .nilIface).drewN q) w' := by
  have hm := fun w => meth_code ⟨g, 0, none⟩ w
  have hw : IntKind.i64.wrap ((u : Int) - (s : Int)) = (u : Int) - (s : Int) := IntWalk.i64_in _ (by omega)
  have HP := Lib.hid hP
  have hS1 := Lib.hid (fun q => hS.out (w.drewN q) (below_drewN (Below.refl _ _) q))
  have hfgo : (w.setCell ⟨hp, 3, none⟩ (.int .i64 ((u : Int) - s))).frozen? ⟨go, n, none⟩ = false := by rw [World.frozen?_of_block (Below.heap_setCell _ _ _ _ (fun e => hne e.symm))]; exact hfc
  have hgo : (w.setCell ⟨hp, 3, none⟩ (.int .i64 ((u : Int) - s))).cell? ⟨go, n, none⟩ = some (.iface 132 (ptr g)) := by rw [World.cell?_of_block (Below.heap_setCell _ _ _ _ (fun e => hne e.symm))]; exact hc
  clear hS hP
  go_enter Tryd.func72, Tryd.ntmps72
  go_wp2
  go_region_with ((go_at_call 163; refine (hS1.out _).mono ?_; rintro e w' ⟨rfl, qs, rfl⟩))
  all_goals
    go_wp2_with fail
    refine (HP.out _ _ (by rfl)).mono ?_
    rintro e w2 ⟨rfl, hok⟩
    have HOk := Lib.hid hok
    clear hok
    go_wp2_with fail
    go_end0
    exact ⟨rfl, _, HOk.out⟩

/-- Removing an object: its number is free. -/
theorem remove_end {w : World} {base hp lim n go co : Nat} {ob : Obs} {lab : Nat → Option Lab} {P : Parts} {o : Ob} {v : Value} (h : HeapIs w base hp lim ob lab P) (hb : base ≤ w.heap.size) (ho : ob n = some o) (hov : P.ov = .slice (some ⟨go, 0, none⟩) P.m co) (_hv : P.vals[n]? = some v) :
    ∀ q w1, w1 = ((w.setCell ⟨hp, 3, none⟩ (.int .i64 ((usedTo ob lim : Int) - o.size))).setCell ⟨go, n, none⟩ .nilIface).drewN q →
      Calls Tryd.prog 112 #[.pointer (some ⟨hp, 2, none⟩), .int .i64 (n : Int)] w1 fun e w2 => e = .returned (.tuple #[]) ∧ ∃ lab' P', HeapIs w2 base hp lim (put ob n none) lab' P' ∧ After w w2 lab lab' ∧ P'.m = P.m := by
  rintro q w1 rfl
  have hU := h.toU
  have lo : lab go = some .objs := h.olab go (by rw [hov]; rfl)
  have hne : hp ≠ go := fun e => by subst e; rw [h.hdr] at lo; cases lo
  have hnm := h.has ho
  have hm := h.m
  have hl2 := h.lim2
  have hmany := h.many
  have hpos : 0 < manyTo ob lim := by
    have := manyTo_put ob lim n none (by omega)
    rw [ho] at this
    simp at this
    omega
  have k1 : Keeps (fun b => b = hp ∨ b = go) w (((w.setCell ⟨hp, 3, none⟩ (.int .i64 ((usedTo ob lim : Int) - o.size))).setCell ⟨go, n, none⟩ .nilIface).drewN q) :=
    (((Keeps.refl (fun b => b = hp ∨ b = go) w).setCell ⟨hp, 3, none⟩ _ fun _ => .inl rfl).setCell ⟨go, n, none⟩ _ fun _ => .inr rfl).drewN q
  have hB1 : Blk (((w.setCell ⟨hp, 3, none⟩ (.int .i64 ((usedTo ob lim : Int) - o.size))).setCell ⟨go, n, none⟩ .nilIface).drewN q) hp #[.int .i64 (lim : Int), P.ov, P.fv, .int .i64 ((usedTo ob lim : Int) - o.size)] 106 :=
    ((h.blk.set 3 (.int .i64 ((usedTo ob lim : Int) - o.size))).setOther ⟨go, n, none⟩ .nilIface (fun e => hne e.symm)).drewN q
  have hfo : ∀ b, P.fv.ownBlock = some b → ¬ (b = hp ∨ b = go) := fun b hb e => by
    have lf := h.flab b hb
    rcases e with e | e
    · subst e; rw [h.hdr] at lf; cases lf
    · subst e; rw [lo] at lf; cases lf
  have hobj : (((w.setCell ⟨hp, 3, none⟩ (.int .i64 ((usedTo ob lim : Int) - o.size))).setCell ⟨go, n, none⟩ .nilIface).drewN q).ownsRow base 117 1 (.slice (some ⟨go, 0, none⟩) P.m co) P.m (P.vals.set n .nilIface) := by
    have h1 := h.objs
    rw [hov] at h1
    have h2 := owns_keeps h1 ((Keeps.refl (fun b => b = hp) w).setCell ⟨hp, 3, none⟩ (.int .i64 ((usedTo ob lim : Int) - o.size)) fun _ => rfl) (fun b hb e => by
      simp only [Value.ownBlock, Option.some.injEq] at hb
      subst hb
      exact hne e.symm)
    exact owns_set h2 n .nilIface
  refine (add_any base hp 2 P.nf n P.fv P.f _ _ _ (by omega) hB1 rfl (owns_keeps h.free k1 hfo) (Nat.le_trans hb k1.size) (fun e => hfo hp e (.inl rfl)) h.ord).mono ?_
  rintro e w2 ⟨rfl, v', f', hA, hord⟩
  have kq : Keeps (fun b => b = hp) w (w.setCell ⟨hp, 3, none⟩ (.int .i64 ((usedTo ob lim : Int) - o.size))) := (Keeps.refl (fun b => b = hp) w).setCell ⟨hp, 3, none⟩ _ fun _ => rfl
  have hUq := hU.count kq (h.blk.set 3 (.int .i64 ((usedTo ob lim : Int) - o.size)))
  have szq : (w.setCell ⟨hp, 3, none⟩ (.int .i64 ((usedTo ob lim : Int) - o.size))).heap.size = w.heap.size := by simp [World.setCell]
  have sz1 : (((w.setCell ⟨hp, 3, none⟩ (.int .i64 ((usedTo ob lim : Int) - o.size))).setCell ⟨go, n, none⟩ .nilIface).drewN q).heap.size = w.heap.size := by simp [World.setCell, World.drewN]
  have kq1 : Keeps (fun b => b = hp ∨ b = go ∨ P.fv.ownBlock = some b) (w.setCell ⟨hp, 3, none⟩ (.int .i64 ((usedTo ob lim : Int) - o.size))) w2 :=
    (((Keeps.refl (fun b => b = hp ∨ b = go ∨ P.fv.ownBlock = some b) (w.setCell ⟨hp, 3, none⟩ (.int .i64 ((usedTo ob lim : Int) - o.size)))).setCell ⟨go, n, none⟩ .nilIface fun _ => .inr (.inl rfl)).drewN q).then hA.keeps fun b _ e => by rcases e with e | e; exact .inl e; exact .inr (.inr e)
  have hB2 := hA.blk
  rw [show (#[.int .i64 (lim : Int), P.ov, P.fv, .int .i64 ((usedTo ob lim : Int) - o.size)] : Array Value).setIfInBounds 2 v' = #[.int .i64 (lim : Int), P.ov, v', .int .i64 ((usedTo ob lim : Int) - o.size)] from rfl, hov] at hB2
  have hob2 := owns_keeps hobj hA.keeps (fun b hb e => by
    simp only [Value.ownBlock, Option.some.injEq] at hb
    subst hb
    rcases e with e | e
    · exact hne e.symm
    · exact hfo _ e (.inr rfl))
  have hU2 := hUq.removed ho hov hB2 hob2 hA.row kq1 (fun b hb => by
    rcases hA.place b hb with e | e
    · exact .inl e
    · rw [sz1] at e; rw [szq]; exact .inr e) hA.sames hord
  have hus : usedTo (put ob n none) lim = usedTo ob lim - o.size := by
    have := usedTo_put ob lim n none (by omega)
    rw [ho] at this
    simp only [sizeO] at this
    omega
  have hle : o.size ≤ usedTo ob lim := by
    have := usedTo_at ob lim n (by omega)
    rw [ho] at this
    exact this
  have hu := h.used
  have hI := HeapU.toIs (w := w2) (base := base) (hp := hp) (lim := lim) (ob := put ob n none) (by
    rw [show ((usedTo (put ob n none) lim : Nat) : Int) = (usedTo ob lim : Int) - (o.size : Int) from by omega]
    exact hU2) (by omega)
  refine ⟨rfl, _, _, hI, ⟨?_, ?_⟩, rfl⟩
  · refine (kq.mono fun b _ e => by subst e; unfold Of; rw [h.hdr]; simp).then kq1 fun b _ e => ?_
    rcases e with e | e | e
    · subst e; unfold Of; rw [h.hdr]; simp
    · subst e; unfold Of; rw [lo]; simp
    · unfold Of; rw [h.flab b e]; simp
  · intro b hb'
    have hb' : (if v'.ownBlock = some b then some Lab.free else lab b) ≠ none := hb'
    split at hb'
    · rename_i e
      rcases hA.place b e with e | e
      · exact .inl (by unfold Of; rw [h.flab b e]; simp)
      · rw [sz1] at e; exact .inr e
    · exact .inl hb'
theorem remove_any {w : World} {base hp lim n : Nat} {ob : Obs} {lab : Nat → Option Lab} {P : Parts} {o : Ob} (h : HeapIs w base hp lim ob lab P) (hb : base ≤ w.heap.size) (ho : ob n = some o) :
    Calls Tryd.prog 72 #[ptr hp, .int .i64 (n : Int)] w fun e w' => e = .returned (.tuple #[]) ∧ ∃ lab' P', HeapIs w' base hp lim (put ob n none) lab' P' ∧ After w w' lab lab' ∧ P'.m = P.m := by
  have hnm := h.has ho
  have hm := h.m
  have hu := h.used
  obtain ⟨go, co, hov⟩ : ∃ go co, P.ov = .slice (some ⟨go, 0, none⟩) P.m co := by
    rcases h.objs.2 with ⟨_, h0⟩ | ⟨g, cap, cur, hv, _⟩
    · omega
    · exact ⟨g, cap, hv⟩
  obtain ⟨v, hv, hO⟩ := h.each n hnm
  have hE := remove_end h hb ho hov hv
  have lo : lab go = some .objs := h.olab go (by rw [hov]; rfl)
  have hne : hp ≠ go := fun e => by subst e; rw [h.hdr] at lo; cases lo
  obtain ⟨c0, c1, c2, c3⟩ := h.blk.four
  rw [hov] at c1
  have hrow := h.objs
  rw [hov] at hrow
  have hr := Row.of_owns hrow
  have hc := hr.cell n v hv
  have hle : o.size ≤ usedTo ob lim := by
    have := usedTo_at ob lim n (by omega)
    rw [ho] at this
    exact this
  have hsm := h.small n
  rw [ho] at hO hsm
  cases o with
  | cons a d =>
    obtain ⟨g, rfl, hl, hB⟩ := hO
    refine (remove_cons hp go co P.m (usedTo ob lim) g _ n _ w (draws_cons g) hu hle hnm hne c1 c3 (h.blk.free 3) hc (hr.free n) hE).mono ?_
    rintro e w' ⟨rfl, q, hok⟩
    exact ⟨rfl, hok⟩
  | text s k =>
    obtain ⟨g, rfl, hl, hB⟩ := hO
    refine (remove_text hp go co P.m (usedTo ob lim) g _ n _ w (draws_text hB) hu hle hnm hne c1 c3 (h.blk.free 3) hc (hr.free n) hE).mono ?_
    rintro e w' ⟨rfl, q, hok⟩
    exact ⟨rfl, hok⟩
  | vec l =>
    obtain ⟨g, r, rfl, hl, hB, hr2⟩ := hO
    refine (remove_vector hp go co P.m (usedTo ob lim) g _ n _ w (draws_vector hB (slat_slice hr2)) hu hle hnm hne c1 c3 (h.blk.free 3) hc (hr.free n) hE).mono ?_
    rintro e w' ⟨rfl, q, hok⟩
    exact ⟨rfl, hok⟩
  | code p q z b l =>
    obtain ⟨g, rb, rl, rfl, hl, hB, hrb, hrl⟩ := hO
    refine (remove_code hp go co P.m (usedTo ob lim) g _ n _ w (draws_code hB (slat_slice hrb) (slat_slice hrl) hsm.1 hsm.2) hu hle hnm hne c1 c3 (h.blk.free 3) hc (hr.free n) hE).mono ?_
    rintro e w' ⟨rfl, q, hok⟩
    exact ⟨rfl, hok⟩
end Go.Proofs.YtcdlfgggmigcnaaDoor.Remove
