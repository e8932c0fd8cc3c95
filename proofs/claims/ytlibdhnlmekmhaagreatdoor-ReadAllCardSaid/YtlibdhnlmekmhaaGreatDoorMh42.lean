/- The contract of clone: code with slices of its own. | The contract of Code. | The contracts of the statements' small functions; a region that draws its order, whose calls may make memory. | The chapter's example. | Read with a heap that is not valid; what the chapter's examples give, by the model. | What the chapter's examples give, by the model. | Numerals as ReadInts writes them, and what Read answers. -/
import Derived.Deep.RegionWith
import Derived.LoopTactic
import Derived.Outline
import Derived.Deep.LoopGhost
import Derived.Deep.OwnRows
import Derived.Laws.StructEq
import Derived.IntWalk
import Derived.Test.YtlibdhnlmekmhaaGreatDoorMh22
import Derived.Test.YtlibdhnlmekmhaaGreatDoorMh23
import Derived.Test.YtlibdhnlmekmhaaGreatDoorMh37
import Derived.Test.YtlibdhnlmekmhaaGreatDoorMh38
import Derived.Test.YtlibdhnlmekmhaaGreatDoorMh41
/- The contract of clone: code with slices of its own. -/
section
namespace Go.Proofs.YtlibdhnlmekmhaaGreatDoor.CloneC
set_option maxRecDepth 100000
open Go.RowKit
open Go.Proofs.YtlibdhnlmekmhaaGreatDoor.Own Go.Proofs.YtlibdhnlmekmhaaGreatDoor.Hp Go.Proofs.YtlibdhnlmekmhaaGreatDoor.Rep Go.Proofs.YtlibdhnlmekmhaaGreatDoor.Clone Go.Proofs.YtlibdhnlmekmhaaGreatDoor.Make

/-- What holds between the calls: old blocks as they were, the two new blocks as they are. -/
def Inv (w : World) (c0 c1 : Array Value) (W : World) : Prop :=
  (W.os = w.os ∧ W.tape = w.tape ∧ W.output = w.output ∧ w.heap.size ≤ W.heap.size ∧ ∀ k, k < w.heap.size → W.heap[k]? = w.heap[k]?) ∧ W.heap[w.heap.size]? = some (.cells c0 287 (0, 0)) ∧ W.heap[w.heap.size + 1]? = some (.cells c1 287 (0, 0))
theorem Inv.below {w W : World} {c0 c1 : Array Value} (h : Inv w c0 c1 W) : Below w.heap.size w W := ⟨h.1.1, h.1.2.1, h.1.2.2.1, h.1.2.2.2.1, h.1.2.2.2.2⟩
theorem Inv.blk0 {w W : World} {c0 c1 : Array Value} (h : Inv w c0 c1 W) : Blk W w.heap.size c0 287 := h.2.1
theorem Inv.blk1 {w W : World} {c0 c1 : Array Value} (h : Inv w c0 c1 W) : Blk W (w.heap.size + 1) c1 287 := h.2.2
theorem Inv.next {w W W' : World} {c0 c1 : Array Value} (h : Inv w c0 c1 W) (hb : Below W.heap.size W W') : Inv w c0 c1 W' := by
  have h1 := h.below.trans (hb.mono h.below.size)
  exact ⟨⟨h1.os, h1.tape, h1.output, h1.size, h1.block⟩, h.blk0.below hb, h.blk1.below hb⟩
theorem Blk.five {w : World} {g : Nat} {a b c d e : Value} {t : TypeId} (h : Blk w g #[a, b, c, d, e] t) :
    (w.cell? ⟨g, 0, none⟩ = some a ∧ w.cell? ⟨g, 1, none⟩ = some b ∧ w.cell? ⟨g, 2, none⟩ = some c ∧ w.cell? ⟨g, 3, none⟩ = some d ∧ w.cell? ⟨g, 4, none⟩ = some e) ∧ (w.frozen? ⟨g, 0, none⟩ = false ∧ w.frozen? ⟨g, 1, none⟩ = false ∧ w.frozen? ⟨g, 2, none⟩ = false ∧ w.frozen? ⟨g, 3, none⟩ = false ∧ w.frozen? ⟨g, 4, none⟩ = false) :=
  ⟨⟨h.cell 0 _ rfl, h.cell 1 _ rfl, h.cell 2 _ rfl, h.cell 3 _ rfl, h.cell 4 _ rfl⟩, h.free 0, h.free 1, h.free 2, h.free 3, h.free 4⟩

end Go.Proofs.YtlibdhnlmekmhaaGreatDoor.CloneC
end

/- The contract of Code. -/
section
namespace Go.Proofs.YtlibdhnlmekmhaaGreatDoor.Make
set_option maxRecDepth 100000
open Go.RowKit
open Go.Proofs.YtlibdhnlmekmhaaGreatDoor.Own Go.Proofs.YtlibdhnlmekmhaaGreatDoor.Hp Go.Proofs.YtlibdhnlmekmhaaGreatDoor.HeapOrd Go.Proofs.YtlibdhnlmekmhaaGreatDoor.Rep Go.Proofs.YtlibdhnlmekmhaaGreatDoor.Base Go.Proofs.YtlibdhnlmekmhaaGreatDoor.Get Go.Proofs.YtlibdhnlmekmhaaGreatDoor.Size Go.Proofs.YtlibdhnlmekmhaaGreatDoor.Add Go.Proofs.YtlibdhnlmekmhaaGreatDoor.Clone Go.Proofs.YtlibdhnlmekmhaaGreatDoor.CloneC

/-- What Code returns. -/
def codeO (ob : Obs) (lim : Nat) (p q z : Int) (b : List Int) (l : List Wd) : Wd × Int × Obs := if 65536 < b.length ∨ 65536 < l.length then ((0, 0), 4, ob) else addO ob lim (.code p q z b l)
/-- Code by value. -/
abbrev codeV (p q z : Int) (bv lv : Value) : Value := .agg #[.int .i64 p, .int .i64 q, .int .i64 z, bv, lv]

/-- Labels for the blocks of a code: its own, the row of its words, that of its bytes. -/
def lab3 (g n : Nat) (rb rl : Value) (b : Nat) : Option Lab := if b = g then some (.obj n) else if rl.ownBlock = some b then some (.row n) else if rb.ownBlock = some b then some (.bytes n) else none
theorem newLab3 {w W2 : World} {base hp lim n m m2 : Nat} {e e2 : TypeId} {size size2 : Nat} {ob : Obs} {lab : Nat → Option Lab} {P : Parts} {rb rl : Value} {xs ys : List Value} {o : Obj} (h : HeapIs w base hp lim ob lab P) (hb : base ≤ w.heap.size) (hb2 : Below w.heap.size w W2)
    (ho : W2.ownsRow w.heap.size e size rb m xs) (ho2 : W2.ownsRow w.heap.size e2 size2 rl m2 ys) (hd : ∀ b, rb.ownBlock = some b → rl.ownBlock ≠ some b) :
    NewLab (W2.alloc o) base n (lab3 W2.heap.size n rb rl) lab ∧ (∀ b, lab3 W2.heap.size n rb rl b ≠ none → w.heap.size ≤ b) ∧ (∀ b, rb.ownBlock = some b → lab3 W2.heap.size n rb rl b = some (.bytes n)) ∧ (∀ b, rl.ownBlock = some b → lab3 W2.heap.size n rb rl b = some (.row n)) ∧ lab3 W2.heap.size n rb rl W2.heap.size = some (.obj n) := by
  have hlt : ∀ b, rb.ownBlock = some b → w.heap.size ≤ b ∧ b < W2.heap.size := ho.lt
  have hlt2 : ∀ b, rl.ownBlock = some b → w.heap.size ≤ b ∧ b < W2.heap.size := ho2.lt
  refine ⟨⟨fun b l hl => ?_, fun b l hl => ?_⟩, fun b hl => ?_, fun b hb' => ?_, fun b hb' => ?_, by simp [lab3]⟩
  · unfold lab3 at hl
    split at hl
    · rename_i e
      subst e
      exact ⟨lab_none h hb2.size, Nat.le_trans hb hb2.size, by simp⟩
    · split at hl
      · rename_i e
        have := hlt2 b e
        exact ⟨lab_none h this.1, by omega, by simp; omega⟩
      · split at hl
        · rename_i e
          have := hlt b e
          exact ⟨lab_none h this.1, by omega, by simp; omega⟩
        · cases hl
  · unfold lab3 at hl
    split at hl
    · cases hl; rfl
    · split at hl
      · cases hl; rfl
      · split at hl
        · cases hl; rfl
        · cases hl
  · unfold lab3 at hl
    split at hl
    · rename_i e; subst e; exact hb2.size
    · split at hl
      · rename_i e; exact (hlt2 b e).1
      · split at hl
        · rename_i e; exact (hlt b e).1
        · exact absurd rfl hl
  · unfold lab3
    rw [if_neg (by have := hlt b hb'; omega), if_neg (hd b hb'), if_pos hb']
  · unfold lab3
    rw [if_neg (by have := hlt2 b hb'; omega), if_pos hb']

end Go.Proofs.YtlibdhnlmekmhaaGreatDoor.Make
end

/- The contracts of the statements' small functions; a region that draws its order, whose calls may make memory. -/
section
namespace Go.Proofs.YtlibdhnlmekmhaaGreatDoor.Kit
set_option maxRecDepth 100000
open Go.RowKit
open Go.Proofs.YtlibdhnlmekmhaaGreatDoor.Own Go.Proofs.YtlibdhnlmekmhaaGreatDoor.Hp Go.Proofs.YtlibdhnlmekmhaaGreatDoor.Rep

/-- A world that has only grown since w0. -/
structure Grown (w0 : World) where
  w : World
  below : Below w0.heap.size w0 w
instance grownNonempty (w0 : World) : Nonempty (Grown w0) := ⟨⟨w0, Below.refl _ _⟩⟩
theorem wp_region_grown {P : Program} {id : Nat} {Q : Exit → Act → World → Prop} {a : Act} {w : World} {l : List Oper} (w0 : World) (hb : Below w0.heap.size w0 w) (hm : P.follows .mixedOrders = true) (hB : Region.lexB .any l.toArray = true)
    (h : wpQuiet P l.toArray (fun w' => ∃ x : Grown w0, w' = x.w) (fun a' => ∀ w', (∃ x : Grown w0, w' = x.w) → Q .normal a' w') l a) : (Code.region id l.toArray true).wp P Q a w :=
  wp_region_quiet (C := fun w' => ∃ x : Grown w0, w' = x.w) hm hB ⟨⟨{ w with drawn := w.drawn + 1 }, ⟨hb.os, hb.tape, hb.output, hb.size, hb.block⟩⟩, rfl⟩ (by simpa using h)
/-- A call in such a region. -/
theorem grown_call {P : Program} {f : FuncId} {args : Array Value} {w0 : World} {x : Grown w0} {v : Value} (h : ∀ w, Below w0.heap.size w0 w → Calls P f args w fun e w' => e = .returned v ∧ Below w.heap.size w w') :
    Calls P f args x.w fun e w'' => e = .returned v ∧ ∃ y : Grown w0, w'' = y.w :=
  (h x.w x.below).mono fun _ w' ⟨he, hb⟩ => ⟨he, ⟨w', x.below.trans (hb.mono x.below.size)⟩, rfl⟩

theorem int_any (n : Int) (w : World) : Calls Tryz.prog 20 #[.int .i64 n] w fun e w' => e = .returned (wd (0, n)) ∧ Below w.heap.size w w' := by
  go_enter Tryz.func20, Tryz.ntmps20
  go_wp2
  refine bodyPost_ret (v := wd (0, n)) (by simp [results, Tryz.results20, go_sem]) rfl ⟨rfl, (Below.refl _ _).alloc (Nat.le_refl _) _⟩
theorem sym_any (n : Int) (w : World) : Calls Tryz.prog 19 #[.int .i64 n] w fun e w' => e = .returned (wd (1, n)) ∧ Below w.heap.size w w' := by
  go_enter Tryz.func19, Tryz.ntmps19
  go_wp2
  refine bodyPost_ret (v := wd (1, n)) (by simp [results, Tryz.results19, go_sem]) rfl ⟨rfl, (Below.refl _ _).alloc (Nat.le_refl _) _⟩
theorem nil_any (w : World) : Calls Tryz.prog 45 #[] w fun e w' => e = .returned (wd (1, 0)) ∧ Below w.heap.size w w' := by
  have HS := Lib.hid (sym_any 0)
  go_enter Tryz.func45, Tryz.ntmps45
  go_wp2_with fail
  refine (HS.out _).mono ?_
  rintro e w1 ⟨rfl, hb⟩
  obtain ⟨b0, b1, e0, e1⟩ := (one_new hb).two
  go_wp2_with fail
  refine bodyPost_ret (v := wd (1, 0)) (by simp [results, Tryz.results45, go_sem, b0, b1]) rfl ⟨rfl, ?_⟩
  exact ((((Below.refl w.heap.size w).alloc (Nat.le_refl _) _).trans (hb.mono (by simp))).setCell (by simp) _).setCell (by simp) _
/-- The number that Pick picks. -/
def pickZ (x n : Int) : Int := if n ≤ 0 then 0 else if x.tmod n < 0 then x.tmod n + n else x.tmod n
theorem pick_range (x n : Int) (h : 0 < n) : 0 ≤ pickZ x n ∧ pickZ x n < n := by
  have h1 := Int.tmod_lt_of_pos x h
  have h2 := Int.lt_tmod_of_pos x h
  unfold pickZ
  rw [if_neg (by omega)]
  split <;> omega
set_option maxHeartbeats 1000000 in
theorem pick_any (x n : Int) (w : World) (h : 0 < n) (hn : n ≤ 4611686018427387904) :
    Calls Tryz.prog 28 #[.int .i64 x, .int .i64 n] w fun e w' => e = .returned (.int .i64 (pickZ x n)) ∧ w = w' := by
  have h1 := Int.tmod_lt_of_pos x h
  have h2 := Int.lt_tmod_of_pos x h
  unfold pickZ
  rw [if_neg (by omega)]
  by_cases hneg : x.tmod n < 0
  · rw [if_pos hneg]
    go_enter Tryz.func28, Tryz.ntmps28
    go_wp2
    go_ret
    exact ⟨rfl, rfl⟩
  · rw [if_neg hneg]
    go_enter Tryz.func28, Tryz.ntmps28
    go_wp2
    go_ret
    exact ⟨rfl, rfl⟩
theorem pick_zero (x n : Int) (w : World) (h : n ≤ 0) :
    Calls Tryz.prog 28 #[.int .i64 x, .int .i64 n] w fun e w' => e = .returned (.int .i64 0) ∧ w = w' := by
  go_enter Tryz.func28, Tryz.ntmps28
  go_wp2
  go_ret
  exact ⟨rfl, rfl⟩
end Go.Proofs.YtlibdhnlmekmhaaGreatDoor.Kit
end

/- The chapter's example. -/
section
namespace Go.Proofs.YtlibdhnlmekmhaaGreatDoor.Rd
set_option maxRecDepth 100000
open Go.RowKit Go.Maps Go.Lib
open Go.Proofs.YtlibdhnlmekmhaaGreatDoor.Own Go.Proofs.YtlibdhnlmekmhaaGreatDoor.Hp Go.Proofs.YtlibdhnlmekmhaaGreatDoor.Rep Go.Proofs.YtlibdhnlmekmhaaGreatDoor.Get Go.Proofs.YtlibdhnlmekmhaaGreatDoor.Add Go.Proofs.YtlibdhnlmekmhaaGreatDoor.Make Go.Proofs.YtlibdhnlmekmhaaGreatDoor.Utf Go.Proofs.YtlibdhnlmekmhaaGreatDoor.Strs Go.Proofs.YtlibdhnlmekmhaaGreatDoor.Clone Go.Proofs.YtlibdhnlmekmhaaGreatDoor.Car Go.Proofs.YtlibdhnlmekmhaaGreatDoor.Kit
open Go.Proofs.YtlibdhnlmekmhaaGreatDoor.Nt hiding Wd

def exS : ByteArray := ⟨#[40, 97, 32, 46, 32, 98, 41]⟩
def exA : Ans := readR 9 (runes exS.data.toList) 0 Quick.noObs t0
theorem exA_ans : (exA.x, exA.en, exA.c, exA.k) = ((2, 0), 7, 0, 0) := by kernel_rfl
theorem exA_ob : exA.ob 0 = some (.cons (1, 62) (1, 63)) := by kernel_rfl
theorem exA_car : carO exA.ob (2, 0) = ((1, 62), 0) := by kernel_rfl
theorem exA_cdr : cdrO exA.ob (2, 0) = ((1, 63), 0) := by kernel_rfl
theorem exS_valid : validD exS.data.toList = true := by kernel_rfl
theorem HT.car {w : World} {base hp lim tp : Nat} {ob : Obs} {tb : Tb} {F : Nat → Prop} (h : HT w base hp lim tp ob tb F) (x : Wd) :
    Reads w 17 #[ptr hp, wd x] (.tuple #[wd (carO ob x).1, .int .i64 (carO ob x).2]) := by
  obtain ⟨lh, lt, PH, PT, hH, hT, hd, hF⟩ := h.is
  exact car_any hH x
theorem HT.cdr {w : World} {base hp lim tp : Nat} {ob : Obs} {tb : Tb} {F : Nat → Prop} (h : HT w base hp lim tp ob tb F) (x : Wd) :
    Reads w 63 #[ptr hp, wd x] (.tuple #[wd (cdrO ob x).1, .int .i64 (cdrO ob x).2]) := by
  obtain ⟨lh, lt, PH, PT, hH, hT, hd, hF⟩ := h.is
  exact cdr_any hH x
theorem HTOk.bel {w0 w w' : World} {base hp lim tp : Nat} {ob ob' : Obs} {tb tb' : Tb} {F : Nat → Prop} (h : HTOk w w' base hp lim tp ob tb F) (h0 : HT w base hp lim tp ob' tb' F) (hb : base ≤ w.heap.size) : Below base w w' := by
  obtain ⟨F', h1, h2⟩ := h
  exact h2.keeps.below hb fun b hF => (h0.lt hF).1

set_option maxHeartbeats 4000000 in
theorem lives_any (w : World) (hS : Sys w) : Calls Tryz.prog 14 #[] w fun e w' => e = .returned (.bool true) ∧ Below w.heap.size w w' := by
  have hFr : Calls Tryz.prog 15 #[.int .i64 9] w _ := fresh_any 9 (by omega) (by omega) w hS.tabs
  have HFr := Lib.hid hFr
  have HS := Lib.hid hS
  obtain ⟨A, hA⟩ : ∃ A, exA = A := ⟨_, rfl⟩
  have hans := exA_ans
  have hcar := exA_car
  have hcdr := exA_cdr
  rw [hA] at hans hcar hcdr
  simp only [Prod.mk.injEq] at hans
  have HA := Lib.hid hA
  have HAn := Lib.hid hans
  have HCr := Lib.hid hcar
  have HCd := Lib.hid hcdr
  clear hFr hS hA hans hcar hcdr
  go_enter Tryz.func14, Tryz.ntmps14
  go_wp2_with fail
  refine HFr.out.mono ?_
  rintro e w1 ⟨tp, F, rfl, hH, hb⟩
  have HH := Lib.hid hH
  have HB1 := Lib.hid hb
  have hrd : Calls Tryz.prog 16 #[ptr w.heap.size, tptr tp, .string ⟨#[40, 97, 32, 46, 32, 98, 41]⟩, .int .i64 0] w1 _ := read_any (w0 := w) hH hb (Nat.le_refl _) HS.out (by rw [t0_length]; omega) exS (by decide) exS_valid 0 (A := A) HA.out (by rw [HAn.out.2.2.1]; decide)
  rw [HAn.out.1, HAn.out.2.1, HAn.out.2.2.1, HAn.out.2.2.2] at hrd
  have HRd := Lib.hid hrd
  clear hH hb hrd
  go_wp2_with fail
  refine HRd.out.mono ?_
  rintro e w2 ⟨rfl, hok⟩
  have hb2 := hok.bel (w0 := w) HH.out HH.out.high
  obtain ⟨F2, hH2, _⟩ := hok
  have HB2 := Lib.hid (HB1.out.trans hb2)
  have HH2 := Lib.hid hH2
  clear hb2 hH2
  go_wp2_with fail
  obtain ⟨W3, hW3⟩ : ∃ W, (w2.alloc (.cells #[.int .i64 2, .int .i64 0] 28)).alloc fbox0 = W := ⟨_, rfl⟩
  have hb3 : Below w2.heap.size w2 W3 := by rw [← hW3]; exact ((Below.refl _ _).alloc (Nat.le_refl _) _).alloc (by simp) _
  have k3 : Blk W3 w2.heap.size #[.int .i64 2, .int .i64 0] 28 := by rw [← hW3]; exact (Blk.new w2 _ _).below (bel_box _ _)
  have k5 : Blk W3 (w2.heap.size + 1) #[.int .i64 0, .int .i64 0] 31 := by
    have := Blk.new (w2.alloc (.cells #[.int .i64 2, .int .i64 0] 28)) #[.int .i64 0, .int .i64 0] 31
    rw [World.size_alloc] at this
    rw [← hW3]
    exact this
  have hH3 := HH2.out.below hb3
  have hc := (hH3.car (2, 0)).at
  rw [HCr.out] at hc
  have HC := Lib.hid hc
  have HB3 := Lib.hid (HB2.out.trans (hb3.mono HB2.out.size))
  have HH3 := Lib.hid hH3
  have HK3 := Lib.hid k3
  have HK5 := Lib.hid k5
  clear hH3 hc hb3 k3 k5
  rw [hW3]
  refine HC.out.mono ?_
  rintro e w4 ⟨rfl, hb4⟩
  have hb5 := hb4.trans ((bel_box w4 (.cells #[.int .i64 1, .int .i64 62] 28)).mono hb4.size)
  have hH5 := HH3.out.below hb5
  obtain ⟨x0, x1, _, _⟩ := (HK3.out.below hb5).two
  have hc := (hH5.cdr (2, 0)).at
  rw [HCd.out] at hc
  have HC5 := Lib.hid hc
  have HB5 := Lib.hid (HB3.out.trans (hb5.mono HB3.out.size))
  have HK5' := Lib.hid (HK5.out.below hb5)
  have HK6 := Lib.hid (Blk.new w4 #[.int .i64 1, .int .i64 62] 28)
  clear hb4 hb5 hH5 hc hW3
  go_wp2_with fail
  refine HC5.out.mono ?_
  rintro e w6 ⟨rfl, hb6⟩
  have hb7 := hb6.trans ((bel_box w6 (.cells #[.int .i64 1, .int .i64 63] 28)).mono hb6.size)
  have hB7 := HB5.out.trans (hb7.mono HB5.out.size)
  have r5 := HK5'.out.below hb7
  have r6 := HK6.out.below hb7
  have r8 := Blk.new w6 #[.int .i64 1, .int .i64 63] 28
  obtain ⟨W7, hW7⟩ : ∃ W, w6.alloc (.cells #[.int .i64 1, .int .i64 63] 28) = W := ⟨_, rfl⟩
  rw [hW7] at hB7 r5 r6 r8
  have q1 := fun x : Grown W7 => (r5.below x.below).cell 0 _ rfl
  have q2 := fun x : Grown W7 => (r5.below x.below).cell 1 _ rfl
  have q3 := fun x : Grown W7 => (r6.below x.below).cell 0 _ rfl
  have q4 := fun x : Grown W7 => (r6.below x.below).cell 1 _ rfl
  have q5 := fun x : Grown W7 => (r8.below x.below).cell 0 _ rfl
  have q6 := fun x : Grown W7 => (r8.below x.below).cell 1 _ rfl
  have HB7 := Lib.hid hB7
  clear hb6 hb7 hB7 r5 r6 r8 x0 x1
  go_wp2_with fail
  clear hW7
  refine wp_region_grown W7 (Below.refl _ _) (by kernel_rfl) (by kernel_rfl) ?_
  repeat (go_big_quiet_step ((go_at_call 19; exact grown_call (fun w _ => sym_any _ w))))
  refine wpQuiet_nil ?_
  rintro _ ⟨x, rfl⟩
  have HX := Lib.hid (HB7.out.trans (x.below.mono HB7.out.size))
  go_wp2_with fail
  go_ret
  exact ⟨rfl, HX.out⟩
end Go.Proofs.YtlibdhnlmekmhaaGreatDoor.Rd
end

/- Read with a heap that is not valid; what the chapter's examples give, by the model. -/
section
namespace Go.Proofs.YtlibdhnlmekmhaaGreatDoor.Rd
set_option maxRecDepth 100000
open Go.RowKit Go.Maps Go.Lib
open Go.Proofs.YtlibdhnlmekmhaaGreatDoor.Own Go.Proofs.YtlibdhnlmekmhaaGreatDoor.Hp Go.Proofs.YtlibdhnlmekmhaaGreatDoor.Rep Go.Proofs.YtlibdhnlmekmhaaGreatDoor.Get Go.Proofs.YtlibdhnlmekmhaaGreatDoor.Add Go.Proofs.YtlibdhnlmekmhaaGreatDoor.Make Go.Proofs.YtlibdhnlmekmhaaGreatDoor.Utf Go.Proofs.YtlibdhnlmekmhaaGreatDoor.Strs Go.Proofs.YtlibdhnlmekmhaaGreatDoor.Clone Go.Proofs.YtlibdhnlmekmhaaGreatDoor.Car Go.Proofs.YtlibdhnlmekmhaaGreatDoor.Kit
open Go.Proofs.YtlibdhnlmekmhaaGreatDoor.Nt hiding Wd

theorem limit_null (w : World) : Calls Tryz.prog 118 #[.pointer none] w fun e w' => e = .returned (.int .i64 0) ∧ w = w' := by
  have HV := Lib.hid (Base.valid_nil w)
  go_enter Tryz.func118, Tryz.ntmps118
  go_wp2_with (go_at_call 69; refine HV.out.mono ?_; rintro e w' ⟨rfl, rfl⟩)
  go_ret
  exact ⟨rfl, rfl⟩
theorem newParser_null (tp : Nat) (u : ByteArray) (w : World) : Calls Tryz.prog 65 #[.pointer none, tptr tp, .string u] w fun e w' => e = faultE 1 0 ∧ w = w' := by
  have HL := Lib.hid (limit_null w)
  unfold faultE
  go_enter Tryz.func65, Tryz.ntmps65
  go_wp2_with (go_at_call 118; refine HL.out.mono ?_; rintro e w' ⟨rfl, rfl⟩)
  exact ⟨rfl, rfl, rfl⟩
set_option maxHeartbeats 1000000 in
theorem read_null (tp : Nat) (u : ByteArray) (at_ : Int) (w : World) :
    Calls Tryz.prog 16 #[.pointer none, tptr tp, .string u, .int .i64 at_] w fun e w' => e = .returned (.tuple #[wd (0, 0), .int .i64 0, .agg #[.int .i64 1, .int .i64 0]]) ∧ Below w.heap.size w w' := by
  have hmf : ∀ (fn : Fn) (first cap : Array Value) (w : World), (Instr.makeFunc fn first cap).run Tryz.prog w = .ok (.func fn first cap) w := fun _ _ _ _ => rfl
  have hb : Below w.heap.size w ((w.alloc wbox0).alloc fbox0) := ((Below.refl _ _).alloc (Nat.le_refl _) _).alloc (by simp) _
  have k1 : Blk ((w.alloc wbox0).alloc fbox0) w.heap.size #[.int .i64 0, .int .i64 0] 28 := (Blk.new w _ _).below (bel_box _ _)
  have k2 : Blk ((w.alloc wbox0).alloc fbox0) (w.heap.size + 1) #[.int .i64 0, .int .i64 0] 31 := by
    have := Blk.new (w.alloc wbox0) #[.int .i64 0, .int .i64 0] 31
    rwa [World.size_alloc] at this
  have HN := Lib.hid (newParser_null tp u ((w.alloc wbox0).alloc fbox0))
  have HB := Lib.hid hb
  have HK1 := Lib.hid k1
  have HK2 := Lib.hid k2
  clear hb k1 k2
  go_enter_defers Tryz.func16, Tryz.ntmps16
  go_wp2_with fail
  refine HN.out.mono ?_
  rintro e w3 ⟨rfl, rfl⟩
  unfold faultE
  go_wp2_with fail
  refine leaves_cons (f := 64) (args := #[.pointer (some ⟨w.heap.size + 1, 0, none⟩)]) (by simp) (by simp [go_sem]) ?_
  refine (catch_read (w.heap.size + 1) 0 0 1 0 [] _ HK2.out).mono ?_
  rintro e u' w'' ⟨rfl, rfl, rfl⟩
  have hk : Keeps (fun b => b = w.heap.size + 1) ((w.alloc wbox0).alloc fbox0) ((((w.alloc wbox0).alloc fbox0).setCell ⟨w.heap.size + 1, 0, none⟩ (.int .i64 1)).setCell ⟨w.heap.size + 1, 1, none⟩ (.int .i64 0)) := (keeps_set _ _ 0 _).trans (keeps_set _ _ 1 _)
  have hbl : Below w.heap.size w ((((w.alloc wbox0).alloc fbox0).setCell ⟨w.heap.size + 1, 0, none⟩ (.int .i64 1)).setCell ⟨w.heap.size + 1, 1, none⟩ (.int .i64 0)) := HB.out.trans (hk.below HB.out.size fun b e => by omega)
  obtain ⟨g0, g1, _, _⟩ := (HK1.out.keeps hk (by omega)).two
  have hb2 : Blk ((((w.alloc wbox0).alloc fbox0).setCell ⟨w.heap.size + 1, 0, none⟩ (.int .i64 1)).setCell ⟨w.heap.size + 1, 1, none⟩ (.int .i64 0)) (w.heap.size + 1) #[.int .i64 1, .int .i64 0] 31 := by simpa using (HK2.out.set 0 (.int .i64 1)).set 1 (.int .i64 0)
  obtain ⟨f0, f1, _, _⟩ := hb2.two
  have HBl := Lib.hid hbl
  clear hk hbl hb2
  simp [Leaves, settle, results, Tryz.results16, go_sem, g0, g1, f0, f1]
  exact ((Below.refl _ _).alloc (Nat.le_refl _) _).alloc (by simp) _
end Go.Proofs.YtlibdhnlmekmhaaGreatDoor.Rd
end

/- What the chapter's examples give, by the model. -/
section
namespace Go.Proofs.YtlibdhnlmekmhaaGreatDoor.Rd
set_option maxRecDepth 100000
open Go.RowKit Go.Maps Go.Lib
open Go.Proofs.YtlibdhnlmekmhaaGreatDoor.Own Go.Proofs.YtlibdhnlmekmhaaGreatDoor.Hp Go.Proofs.YtlibdhnlmekmhaaGreatDoor.Rep Go.Proofs.YtlibdhnlmekmhaaGreatDoor.Get Go.Proofs.YtlibdhnlmekmhaaGreatDoor.Add Go.Proofs.YtlibdhnlmekmhaaGreatDoor.Make Go.Proofs.YtlibdhnlmekmhaaGreatDoor.Utf Go.Proofs.YtlibdhnlmekmhaaGreatDoor.Strs Go.Proofs.YtlibdhnlmekmhaaGreatDoor.Clone Go.Proofs.YtlibdhnlmekmhaaGreatDoor.Car Go.Proofs.YtlibdhnlmekmhaaGreatDoor.Kit
open Go.Proofs.YtlibdhnlmekmhaaGreatDoor.Nt hiding Wd

def q1 : ByteArray := ⟨#[39, 40, 49, 32, 34, 120, 34, 41, 32, 59, 32, 99]⟩
def q2 : ByteArray := ⟨#[63, 92, 67, 45, 97, 32, 63, 92, 77, 45, 120, 32, 63, 92, 67, 45, 37, 32, 63, 97, 32, 35, 35, 32, 35, 39, 99, 97, 114, 32, 91, 49, 32, 50, 93]⟩
def q3 : ByteArray := ⟨#[40, 97]⟩
def q4 : ByteArray := ⟨#[41]⟩
def q5 : ByteArray := ⟨#[50, 51, 48, 53, 56, 52, 51, 48, 48, 57, 50, 49, 51, 54, 57, 51, 57, 53, 50]⟩
def q6 : ByteArray := ⟨#[45, 50, 51, 48, 53, 56, 52, 51, 48, 48, 57, 50, 49, 51, 54, 57, 51, 57, 53, 50]⟩
def q7 : ByteArray := ⟨#[32, 59, 32, 120]⟩
def q8 : ByteArray := ⟨#[40, 46, 32, 97, 41]⟩
def q9 : ByteArray := ⟨#[40, 97, 32, 46, 32, 98, 32, 99, 41]⟩
def q10 : ByteArray := ⟨#[34, 97, 92, 113, 34]⟩
def a1 : Ans := readR 40 (runes q1.data.toList) 0 Quick.noObs t0
def r2 : Res (List Wd) := allM 40 (2 * (runes q2.data.toList).length + 1) ((runes q2.data.toList).length + 1) [] ⟨runes q2.data.toList, a1.ob, a1.tb⟩
def l2 : List Wd := match r2 with | .ok l _ => l | .err .. => []
def s2 : St := match r2 with | .ok _ s => s | .err _ _ ob tb => ⟨[], ob, tb⟩
def isOk {α : Type} : Res α → Bool | .ok .. => true | .err .. => false
theorem ok_eq {r : Res (List Wd)} (h : isOk r = true) : r = .ok (match r with | .ok l _ => l | .err .. => []) (match r with | .ok _ s => s | .err _ _ ob tb => ⟨[], ob, tb⟩) := by
  cases r with
  | ok => rfl
  | err => cases h
def a3 : Ans := readR 40 (runes q3.data.toList) 0 s2.ob s2.tb
def a4 : Ans := readR 40 (runes q4.data.toList) 0 a3.ob a3.tb
def a5 : Ans := readR 40 (runes q5.data.toList) 0 a4.ob a4.tb
def a6 : Ans := readR 40 (runes q6.data.toList) 0 a5.ob a5.tb
def a7 : Ans := readR 40 (runes q7.data.toList) 0 a6.ob a6.tb
def a8 : Ans := readR 40 (runes q8.data.toList) 0 a7.ob a7.tb
def a9 : Ans := readR 40 (runes q9.data.toList) 0 a8.ob a8.tb
def a10 : Ans := readR 40 (runes q10.data.toList) 0 a9.ob a9.tb
theorem a1_ans : (a1.x, a1.en, a1.c, a1.k) = ((2, 4), 8, 0, 0) := by kernel_rfl
theorem a1_car : carO a1.ob (2, 4) = ((1, 2), 0) := by kernel_rfl
theorem r2_ok : isOk r2 = true := by kernel_rfl
theorem l2_eq : (l2.length, l2.take 4) = (7, [(0, 1), (0, 134217848), (0, 67108901), (0, 97)]) := by kernel_rfl
theorem a3_ans : (a3.x, a3.en, a3.c, a3.k) = ((0, 0), 0, 5, 2) := by kernel_rfl
theorem a4_ans : (a4.x, a4.en, a4.c, a4.k) = ((0, 0), 0, 5, 0) := by kernel_rfl
theorem a5_ans : (a5.x, a5.en, a5.c, a5.k) = ((0, 0), 0, 15, 0) := by kernel_rfl
theorem a6_ans : (a6.x, a6.en, a6.c, a6.k) = ((0, -2305843009213693952), 20, 0, 0) := by kernel_rfl
theorem a7_ans : (a7.x, a7.en, a7.c, a7.k) = ((0, 0), 0, 13, 4) := by kernel_rfl
theorem a8_ans : (a8.x, a8.en, a8.c, a8.k) = ((0, 0), 0, 5, 1) := by kernel_rfl
theorem a9_ans : (a9.x, a9.en, a9.c, a9.k) = ((0, 0), 0, 5, 7) := by kernel_rfl
theorem a10_ans : (a10.x, a10.en, a10.c, a10.k) = ((0, 0), 0, 5, 2) := by kernel_rfl
theorem q1_valid : validD q1.data.toList = true := by kernel_rfl
theorem q2_valid : validD q2.data.toList = true := by kernel_rfl
theorem q3_valid : validD q3.data.toList = true := by kernel_rfl
theorem q4_valid : validD q4.data.toList = true := by kernel_rfl
theorem q5_valid : validD q5.data.toList = true := by kernel_rfl
theorem q6_valid : validD q6.data.toList = true := by kernel_rfl
theorem q7_valid : validD q7.data.toList = true := by kernel_rfl
theorem q8_valid : validD q8.data.toList = true := by kernel_rfl
theorem q9_valid : validD q9.data.toList = true := by kernel_rfl
theorem q10_valid : validD q10.data.toList = true := by kernel_rfl
theorem tb_lens : decide (0 < a1.tb.syms.length ∧ 0 < s2.tb.syms.length ∧ 0 < a3.tb.syms.length ∧ 0 < a4.tb.syms.length ∧ 0 < a5.tb.syms.length ∧ 0 < a6.tb.syms.length ∧ 0 < a7.tb.syms.length ∧ 0 < a8.tb.syms.length ∧ 0 < a9.tb.syms.length) = true := by kernel_rfl
end Go.Proofs.YtlibdhnlmekmhaaGreatDoor.Rd
end

/- Numerals as ReadInts writes them, and what Read answers. -/
section
namespace Go.Proofs.YtlibdhnlmekmhaaGreatDoor.Rd
open Go.RowKit Go.Lib
open Go.Proofs.YtlibdhnlmekmhaaGreatDoor.Hp Go.Proofs.YtlibdhnlmekmhaaGreatDoor.Add Go.Proofs.YtlibdhnlmekmhaaGreatDoor.Make Go.Proofs.YtlibdhnlmekmhaaGreatDoor.Utf Go.Proofs.YtlibdhnlmekmhaaGreatDoor.Strs
open Go.Proofs.YtlibdhnlmekmhaaGreatDoor.Nt hiding Wd

theorem tok_run : ∀ (D acc : List Int) (pl : Bool) (r : List Int), (∀ c ∈ D, delimB c = false ∧ c ≠ 92) → endsB r = true → tokF false acc pl (D ++ r) = some (acc ++ D, pl, r)
  | [], acc, pl, [], _, _ => by simp [tokF]
  | [], acc, pl, c :: r, _, hr => by
    have hr' : delimB c = true := hr
    simp [tokF, hr']
  | d :: D, acc, pl, r, h, hr => by
    obtain ⟨h1, h2⟩ := h d (by simp)
    rw [List.cons_append, tokF, if_neg (by simp [h1]), if_neg h2, tok_run D (acc ++ [d]) pl r (fun c hc => h c (List.mem_cons_of_mem _ hc)) hr]
    simp
theorem num_char {c : Int} (h : digitB c = true ∨ c = 43 ∨ c = 45) : 43 ≤ c ∧ c ≤ 57 ∧ c ≠ 44 ∧ c ≠ 46 := by
  rcases h with h | rfl | rfl
  · have := (digitB_iff c).1 h
    omega
  · omega
  · omega
theorem num_chars {D : List Int} (hd : (unsign D).all digitB = true) : ∀ c ∈ D, digitB c = true ∨ c = 43 ∨ c = 45 := by
  cases D with
  | nil => simp
  | cons a D =>
    have hd : (if a = 43 ∨ a = 45 then D else a :: D).all digitB = true := hd
    split at hd
    · rename_i ha
      intro c hc
      rcases List.mem_cons.1 hc with rfl | hc
      · exact .inr ha
      · exact .inl (List.all_eq_true.1 hd c hc)
    · intro c hc
      exact .inl (List.all_eq_true.1 hd c hc)
theorem form_num {lim k o : Nat} {D r : List Int} {ob : Obs} {tb : Tb} (hne : unsign D ≠ []) (hd : (unsign D).all digitB = true) (hr : endsB r = true) :
    formM lim (k + 1) o ⟨D ++ r, ob, tb⟩ = intG ⟨D ++ r, ob, tb⟩ D r := by
  have hch := num_chars hd
  cases D with
  | nil => simp [unsign] at hne
  | cons c D =>
    obtain ⟨h1, h2, h3, h4⟩ := num_char (hch c (by simp))
    have hb : blankB c = false := by simp [blankB]; omega
    have hsk : skipF false (c :: D ++ r) = c :: (D ++ r) := skipF_stop (by omega) hb
    have hall : ∀ x ∈ c :: D, delimB x = false ∧ x ≠ 92 := by
      intro x hx
      obtain ⟨g1, g2, g3, g4⟩ := num_char (hch x hx)
      refine ⟨?_, by omega⟩
      simp [delimB, blankB]
      omega
    have hn : numB (c :: D) = true := by
      unfold numB
      rw [hd, Bool.and_true]
      cases hu : unsign (c :: D) with
      | nil => exact (hne hu).elim
      | cons => rfl
    rw [formM_succ]
    unfold formG
    rw [hsk]
    show headG lim _ _ _ o c ⟨c :: (D ++ r), ob, tb⟩ = _
    unfold headG
    rw [if_neg (by omega), if_neg (by omega), if_neg (by omega), if_neg (by omega), if_neg (by omega), if_neg (by omega), if_neg (by omega), if_neg (by omega), if_neg (by omega)]
    unfold tokenG
    rw [show (⟨c :: (D ++ r), ob, tb⟩ : St).rest = (c :: D) ++ r from rfl, tok_run (c :: D) [] true r hall hr]
    have h46 : ¬ c :: D = [46] := by intro e; injection e with e1; omega
    simp only [List.nil_append, h46, and_false, if_false, hn, and_self, if_true]
    rfl
theorem read_num {lim : Nat} {D r : List Int} {ob : Obs} {tb : Tb} (hne : unsign D ≠ []) (hd : (unsign D).all digitB = true) (hr : endsB r = true) :
    readR lim (D ++ r) 0 ob tb = if -2305843009213693952 ≤ intV D ∧ intV D ≤ 2305843009213693951 then ⟨(0, intV D), D.length, 0, 0, ob, tb⟩ else ⟨(0, 0), 0, 15, 0, ob, tb⟩ := by
  have hch := num_chars hd
  have hsk : skipF false (D ++ r) = D ++ r := by
    cases D with
    | nil => simp [unsign] at hne
    | cons c D =>
      obtain ⟨h1, h2, h3, h4⟩ := num_char (hch c (by simp))
      exact skipF_stop (by omega) (by simp [blankB]; omega)
  have hD : D ++ r ≠ [] := by
    cases D with
    | nil => simp [unsign] at hne
    | cons => simp
  unfold readR
  rw [if_neg (by omega)]
  simp only [Int.toNat_zero, List.drop_zero, hsk]
  rw [if_neg hD, form_num hne hd hr]
  unfold intG
  split
  · simp only [ansF, List.length_append]
    congr 1
    omega
  · simp [ansF]

/-- Decimal digits. -/
def decZ (n : Nat) : List Int := if n < 10 then [48 + (n : Int)] else decZ (n / 10) ++ [48 + ((n % 10 : Nat) : Int)]
termination_by n
decreasing_by omega
theorem decZ_small {n : Nat} (h : n < 10) : decZ n = [48 + (n : Int)] := by rw [decZ, if_pos h]
theorem decZ_big {n : Nat} (h : ¬ n < 10) : decZ n = decZ (n / 10) ++ [48 + ((n % 10 : Nat) : Int)] := by rw [decZ, if_neg h]
theorem decZ_ok (n : Nat) : (decZ n).all digitB = true ∧ valF (decZ n) = n ∧ decZ n ≠ [] := by
  induction n using Nat.strongRecOn with
  | _ n ih =>
    by_cases h : n < 10
    · rw [decZ_small h]
      refine ⟨?_, ?_, by simp⟩
      · simp [digitB]
        omega
      · simp [valF]
        omega
    · obtain ⟨h1, h2, h3⟩ := ih (n / 10) (by omega)
      rw [decZ_big h]
      refine ⟨?_, ?_, by simp⟩
      · rw [List.all_append, h1]
        simp [digitB]
        omega
      · unfold valF at h2 ⊢
        rw [List.foldl_append, h2]
        simp only [List.foldl_cons, List.foldl_nil]
        omega
theorem decZ_len (n : Nat) : ∀ k : Nat, n < 10 ^ (k + 1) → (decZ n).length ≤ k + 1 := by
  induction n using Nat.strongRecOn with
  | _ n ih =>
    intro k hk
    by_cases h : n < 10
    · rw [decZ_small h]
      simp
    · rw [decZ_big h]
      cases k with
      | zero => omega
      | succ k =>
        have := ih (n / 10) (by omega) k (by rw [Nat.pow_succ] at hk; omega)
        simp only [List.length_append, List.length_singleton]
        omega
/-- A numeral with leading zeros. -/
def numZ (z n : Nat) : List Int := List.replicate z 48 ++ decZ n
theorem numZ_ok (z n : Nat) : (numZ z n).all digitB = true ∧ valF (numZ z n) = n ∧ numZ z n ≠ [] := by
  obtain ⟨h1, h2, h3⟩ := decZ_ok n
  have hz : ∀ z : Nat, (List.replicate z (48 : Int)).foldl (fun n c => 10 * n + (c - 48)) (0 : Int) = 0 := by
    intro z
    induction z with
    | zero => rfl
    | succ z ih => rw [List.replicate_succ, List.foldl_cons]; exact ih
  refine ⟨?_, ?_, by unfold numZ; simp [h3]⟩
  · unfold numZ
    rw [List.all_append, h1, Bool.and_true, List.all_eq_true]
    intro c hc
    rw [List.eq_of_mem_replicate hc]
    rfl
  · unfold numZ valF at *
    rw [List.foldl_append, hz, h2]
theorem numZ_un (z n : Nat) : unsign (numZ z n) = numZ z n := by
  obtain ⟨h1, h2, h3⟩ := numZ_ok z n
  cases hq : numZ z n with
  | nil => exact (h3 hq).elim
  | cons c r =>
    rw [hq] at h1
    have hc := (digitB_iff c).1 (List.all_eq_true.1 h1 c (by simp))
    show (if c = 43 ∨ c = 45 then r else c :: r) = c :: r
    rw [if_neg (by omega)]
theorem numZ_int (z n : Nat) : intV (numZ z n) = n ∧ intV (45 :: numZ z n) = -(n : Int) ∧ intV (43 :: numZ z n) = n := by
  obtain ⟨h1, h2, h3⟩ := numZ_ok z n
  refine ⟨?_, ?_, ?_⟩
  · unfold intV
    rw [numZ_un, h2, if_neg ?_]
    intro e
    cases hq : numZ z n with
    | nil => exact h3 hq
    | cons c r =>
      rw [hq] at h1 e
      have hc := (digitB_iff c).1 (List.all_eq_true.1 h1 c (by simp))
      simp at e
      omega
  · simp [intV, unsign, h2]
  · simp [intV, unsign, h2]
/-- What Read answers at the three texts of the statement. -/
def numA (v : Int) (len : Nat) : Ans := if -2305843009213693952 ≤ v ∧ v ≤ 2305843009213693951 then ⟨(0, v), len, 0, 0, Quick.noObs, t0⟩ else ⟨(0, 0), 0, 15, 0, Quick.noObs, t0⟩
theorem read_three (lim z n : Nat) :
    readR lim (numZ z n) 0 Quick.noObs t0 = numA n (numZ z n).length ∧ readR lim (45 :: numZ z n) 0 Quick.noObs t0 = numA (-(n : Int)) ((numZ z n).length + 1) ∧ readR lim (43 :: (numZ z n ++ [41])) 0 Quick.noObs t0 = numA n ((numZ z n).length + 1) := by
  obtain ⟨h1, h2, h3⟩ := numZ_ok z n
  obtain ⟨i1, i2, i3⟩ := numZ_int z n
  refine ⟨?_, ?_, ?_⟩
  · have := read_num (lim := lim) (D := numZ z n) (r := []) (ob := Quick.noObs) (tb := t0) (by rw [numZ_un]; exact h3) (by rw [numZ_un]; exact h1) rfl
    rw [List.append_nil, i1] at this
    exact this
  · have := read_num (lim := lim) (D := 45 :: numZ z n) (r := []) (ob := Quick.noObs) (tb := t0) (by simp [unsign, h3]) (by simpa [unsign] using h1) rfl
    rw [List.append_nil, i2, List.length_cons] at this
    exact this
  · have := read_num (lim := lim) (D := 43 :: numZ z n) (r := [41]) (ob := Quick.noObs) (tb := t0) (by simp [unsign, h3]) (by simpa [unsign] using h1) rfl
    rw [i3, List.length_cons] at this
    exact this
end Go.Proofs.YtlibdhnlmekmhaaGreatDoor.Rd
end
