/- The contract of clone: code with slices of its own. -/
import Derived.Test.YtcdlfgggmigcnaaDoorMake
import Derived.Deep.RegionWith
namespace Go.Proofs.YtcdlfgggmigcnaaDoor.CloneC
set_option maxRecDepth 100000
open Go.RowKit
open Go.Proofs.YtcdlfgggmigcnaaDoor.Own Go.Proofs.YtcdlfgggmigcnaaDoor.Hp Go.Proofs.YtcdlfgggmigcnaaDoor.Rep Go.Proofs.YtcdlfgggmigcnaaDoor.Clone Go.Proofs.YtcdlfgggmigcnaaDoor.Make

/-- What holds between the calls: old blocks as they were, the two new blocks as they are. -/
def Inv (w : World) (c0 c1 : Array Value) (W : World) : Prop :=
  (W.os = w.os ∧ W.tape = w.tape ∧ W.output = w.output ∧ w.heap.size ≤ W.heap.size ∧ ∀ k, k < w.heap.size → W.heap[k]? = w.heap[k]?) ∧ W.heap[w.heap.size]? = some (.cells c0 52 (0, 0)) ∧ W.heap[w.heap.size + 1]? = some (.cells c1 52 (0, 0))
theorem Inv.below {w W : World} {c0 c1 : Array Value} (h : Inv w c0 c1 W) : Below w.heap.size w W := ⟨h.1.1, h.1.2.1, h.1.2.2.1, h.1.2.2.2.1, h.1.2.2.2.2⟩
theorem Inv.blk0 {w W : World} {c0 c1 : Array Value} (h : Inv w c0 c1 W) : Blk W w.heap.size c0 52 := h.2.1
theorem Inv.blk1 {w W : World} {c0 c1 : Array Value} (h : Inv w c0 c1 W) : Blk W (w.heap.size + 1) c1 52 := h.2.2
theorem Inv.next {w W W' : World} {c0 c1 : Array Value} (h : Inv w c0 c1 W) (hb : Below W.heap.size W W') : Inv w c0 c1 W' := by
  have h1 := h.below.trans (hb.mono h.below.size)
  exact ⟨⟨h1.os, h1.tape, h1.output, h1.size, h1.block⟩, h.blk0.below hb, h.blk1.below hb⟩
theorem Blk.five {w : World} {g : Nat} {a b c d e : Value} {t : TypeId} (h : Blk w g #[a, b, c, d, e] t) :
    (w.cell? ⟨g, 0, none⟩ = some a ∧ w.cell? ⟨g, 1, none⟩ = some b ∧ w.cell? ⟨g, 2, none⟩ = some c ∧ w.cell? ⟨g, 3, none⟩ = some d ∧ w.cell? ⟨g, 4, none⟩ = some e) ∧ (w.frozen? ⟨g, 0, none⟩ = false ∧ w.frozen? ⟨g, 1, none⟩ = false ∧ w.frozen? ⟨g, 2, none⟩ = false ∧ w.frozen? ⟨g, 3, none⟩ = false ∧ w.frozen? ⟨g, 4, none⟩ = false) :=
  ⟨⟨h.cell 0 _ rfl, h.cell 1 _ rfl, h.cell 2 _ rfl, h.cell 3 _ rfl, h.cell 4 _ rfl⟩, h.free 0, h.free 1, h.free 2, h.free 3, h.free 4⟩

set_option maxHeartbeats 8000000 in
theorem clone_core (p q z : Int) (bv lv : Value) (nb nl : Nat) (xb xl : List Value) (w : World) (hb : SlR w bv nb xb) (hl : SlR w lv nl xl) (h1 : xb.length = nb * 1) (h2 : xl.length = nl * 2) (o1 : ∀ u ∈ xb, u.oneCell' = true) (o2 : ∀ u ∈ xl, u.oneCell' = true) (m1 : nb ≤ 65536) (m2 : nl ≤ 65536) :
    Calls Tryd.prog 80 #[.agg #[.int .i64 p, .int .i64 q, .int .i64 z, bv, lv]] w fun e w' => (∃ bv' lv', e = .returned (.agg #[.int .i64 p, .int .i64 q, .int .i64 z, bv', lv']) ∧ w'.ownsRow w.heap.size 5 1 bv' nb xb ∧ w'.ownsRow w.heap.size 28 2 lv' nl xl ∧ (∀ b, bv'.ownBlock = some b → lv'.ownBlock ≠ some b)) ∧ Below w.heap.size w w' := by
  have hcb : ∀ w1, Inv w #[.int .i64 p, .int .i64 q, .int .i64 z, bv, lv] #[.int .i64 0, .int .i64 0, .int .i64 0, .slice none 0 0, .slice none 0 0] w1 → Calls Tryd.prog 113 #[bv] w1 fun e w' => (∃ A c, e = .returned (.slice A nb c) ∧ w'.ownsRow w1.heap.size 5 1 (.slice A nb c) nb xb) ∧ Below w1.heap.size w1 w' ∧ Inv w #[.int .i64 p, .int .i64 q, .int .i64 z, bv, lv] #[.int .i64 0, .int .i64 0, .int .i64 0, .slice none 0 0, .slice none 0 0] w' := fun w1 hi =>
    (cloneB_any bv nb xb w1 (hb.below hi.below) h1 o1 (by omega)).mono fun e w' ⟨⟨v, he, ho⟩, hbw⟩ => by
      obtain ⟨A, c, rfl⟩ := slice_of' ho
      exact ⟨⟨A, c, he, ho⟩, hbw, hi.next hbw⟩
  have hcl : ∀ w1, Inv w #[.int .i64 p, .int .i64 q, .int .i64 z, bv, lv] #[.int .i64 0, .int .i64 0, .int .i64 0, .slice none 0 0, .slice none 0 0] w1 → Calls Tryd.prog 73 #[lv] w1 fun e w' => (∃ A c, e = .returned (.slice A nl c) ∧ w'.ownsRow w1.heap.size 28 2 (.slice A nl c) nl xl) ∧ Below w1.heap.size w1 w' ∧ Inv w #[.int .i64 p, .int .i64 q, .int .i64 z, bv, lv] #[.int .i64 0, .int .i64 0, .int .i64 0, .slice none 0 0, .slice none 0 0] w' := fun w1 hi =>
    (cloneW_any lv nl xl w1 (hl.below hi.below) h2 o2 (by omega)).mono fun e w' ⟨⟨v, he, ho⟩, hbw⟩ => by
      obtain ⟨A, c, rfl⟩ := slice_of' ho
      exact ⟨⟨A, c, he, ho⟩, hbw, hi.next hbw⟩
  obtain ⟨A1, c1, rfl, _⟩ := hb
  obtain ⟨A2, c2, rfl, _⟩ := hl
  have HCB := Lib.hid hcb
  have HCL := Lib.hid hcl
  have hinv : Inv w #[.int .i64 p, .int .i64 q, .int .i64 z, .slice A1 nb c1, .slice A2 nl c2] #[.int .i64 0, .int .i64 0, .int .i64 0, .slice none 0 0, .slice none 0 0]
      ((w.alloc (.cells #[.int .i64 p, .int .i64 q, .int .i64 z, .slice A1 nb c1, .slice A2 nl c2] 52)).alloc (.cells #[.int .i64 0, .int .i64 0, .int .i64 0, .slice none 0 0, .slice none 0 0] 52)) := by
    have hb := ((Below.refl w.heap.size w).alloc (Nat.le_refl _) (.cells #[.int .i64 p, .int .i64 q, .int .i64 z, .slice A1 nb c1, .slice A2 nl c2] 52)).alloc (by simp) (.cells #[.int .i64 0, .int .i64 0, .int .i64 0, .slice none 0 0, .slice none 0 0] 52)
    have h2 := two_new (Below.refl _ ((w.alloc (.cells #[.int .i64 p, .int .i64 q, .int .i64 z, .slice A1 nb c1, .slice A2 nl c2] 52)).alloc (.cells #[.int .i64 0, .int .i64 0, .int .i64 0, .slice none 0 0, .slice none 0 0] 52)))
    exact ⟨⟨hb.os, hb.tape, hb.output, hb.size, hb.block⟩, h2.1, h2.2⟩
  have HI := Lib.hid hinv
  clear h1 h2 o1 o2 hinv hcb hcl
  go_enter Tryd.func80, Tryd.ntmps80
  go_wp2
  go_region_with ((first
    | (go_at_call 113; refine (HCB.out _ (by exact HI.out)).mono ?_; rintro e wb ⟨⟨Ab, cb, rfl, hob⟩, hbb, hib⟩; obtain ⟨⟨-, -, -, r3, r4⟩, ⟨-, -, -, s3, s4⟩⟩ := Blk.five hib.blk0; have HI := Lib.hid hib; have HOB := Lib.hid hob; have HBB := Lib.hid hbb; clear hob hbb hib)
    | (go_at_call 73; refine (HCL.out _ (by exact HI.out)).mono ?_; rintro e wl ⟨⟨Al, cl, rfl, hol⟩, hbl, hil⟩; obtain ⟨⟨-, -, -, r3, r4⟩, ⟨-, -, -, s3, s4⟩⟩ := Blk.five hil.blk0; have HI := Lib.hid hil; have HOL := Lib.hid hol; have HBL := Lib.hid hbl; clear hol hbl hil)))
  all_goals
    have hlt : ∀ b, (Value.slice Ab nb cb).ownBlock = some b → (Value.slice Al nl cl).ownBlock ≠ some b := fun b hb hl => by
      have h1 := (HOB.out.lt b hb).2
      have h2 := (HOL.out.lt b hl).1
      omega
    have hbase : w.heap.size ≤ wb.heap.size := by
      have := HBB.out.size
      simp at this
      omega
    have hk : Keeps (fun b => b = w.heap.size ∨ b = w.heap.size + 1) wl wl := .refl _ _
    have ob1 : wl.ownsRow w.heap.size 5 1 (.slice Ab nb cb) nb xb := owns_base' (owns_below HOB.out HBL.out) (by simp; omega)
    have ol1 : wl.ownsRow w.heap.size 28 2 (.slice Al nl cl) nl xl := owns_base' HOL.out hbase
    have nb0 : ∀ b, (Value.slice Ab nb cb).ownBlock = some b → w.heap.size + 1 < b := fun b hb => by
      have h1 := (HOB.out.lt b hb).1
      simp at h1
      omega
    have nl0 : ∀ b, (Value.slice Al nl cl).ownBlock = some b → w.heap.size + 1 < b := fun b hb => by
      have h1 := (HOL.out.lt b hb).1
      have := HBB.out.size
      simp at this
      omega
    obtain ⟨⟨q0, q1, q2, q3, q4⟩, ⟨t0, t1, t2, t3, t4⟩⟩ := Blk.five HI.out.blk0
    obtain ⟨⟨u0, u1, u2, u3, u4⟩, ⟨v0, v1, v2, v3, v4⟩⟩ := Blk.five HI.out.blk1
    have HX := Lib.hid (And.intro ob1 (And.intro ol1 (And.intro nb0 (And.intro nl0 hlt))))
    clear hlt hbase ob1 ol1 nb0 nl0 HOB HOL HBB HBL hk
    go_wp2
    refine bodyPost_ret (v := .agg #[.int .i64 p, .int .i64 q, .int .i64 z, .slice Ab nb cb, .slice Al nl cl]) (by simp [results, Tryd.results80, go_sem, u0, u1, u2, u3, u4]) rfl ?_
    have hkk := ((((((Keeps.refl (fun b => b = w.heap.size ∨ b = w.heap.size + 1) wl).setCell ⟨w.heap.size, 3, none⟩ (.slice Ab nb cb) fun _ => .inl rfl).setCell ⟨w.heap.size, 4, none⟩ (.slice Al nl cl) fun _ => .inl rfl).setCell ⟨w.heap.size + 1, 0, none⟩ (.int .i64 p) fun _ => .inr rfl).setCell ⟨w.heap.size + 1, 1, none⟩ (.int .i64 q) fun _ => .inr rfl).setCell ⟨w.heap.size + 1, 2, none⟩ (.int .i64 z) fun _ => .inr rfl).setCell ⟨w.heap.size + 1, 3, none⟩ (.slice Ab nb cb) fun _ => .inr rfl
    have hk2 := hkk.setCell ⟨w.heap.size + 1, 4, none⟩ (.slice Al nl cl) fun _ => .inr rfl
    exact ⟨⟨_, _, rfl, owns_keeps HX.out.1 hk2 (fun b hb e => by have := HX.out.2.2.1 b hb; omega), owns_keeps HX.out.2.1 hk2 (fun b hb e => by have := HX.out.2.2.2.1 b hb; omega), HX.out.2.2.2.2⟩, HI.out.below.trans ((hk2.mono (G := fun b => w.heap.size ≤ b) (fun b _ e => by omega)).below HI.out.below.size (fun b hb => hb))⟩
end Go.Proofs.YtcdlfgggmigcnaaDoor.CloneC
