/- The contracts of the statements' small functions; a region that draws its order, whose calls may make memory. | The chapter's example. | Read with a heap that is not valid; what the chapter's examples give, by the model. | What the chapter's examples give, by the model. -/
import Derived.LoopTactic
import Derived.Outline
import Derived.Deep.LoopGhost
import Derived.Deep.OwnRows
import Derived.Laws.StructEq
import Derived.IntWalk
import Derived.Test.YtlibdhnlmekmhaaGreatDoorMgNames06
import Derived.Test.YtlibdhnlmekmhaaGreatDoorMgNames14
import Derived.Test.YtlibdhnlmekmhaaGreatDoorMgNames15
import Derived.Test.YtlibdhnlmekmhaaGreatDoorMgNames39
import Derived.Test.YtlibdhnlmekmhaaGreatDoorMgNames40
import Derived.Test.YtlibdhnlmekmhaaGreatDoorMgNames41
/- The contracts of the statements' small functions; a region that draws its order, whose calls may make memory. -/
section
namespace Go.Proofs.YtlibdhnlmekmhaaGreatDoor.Kit
set_option maxRecDepth 100000
open Go.RowKit
open Go.Proofs.YtlibdhnlmekmhaaGreatDoor.Own Go.Proofs.YtlibdhnlmekmhaaGreatDoor.Hp Go.Proofs.YtlibdhnlmekmhaaGreatDoor.Rep

/-- A world that has only grown since w0. -/
structure Grown (w0 : World) where
  w : World
  below : Below w0.heap.size w0 w
instance grownNonempty (w0 : World) : Nonempty (Grown w0) := ⟨⟨w0, Below.refl _ _⟩⟩
theorem wp_region_grown {P : Program} {id : Nat} {Q : Exit → Act → World → Prop} {a : Act} {w : World} {l : List Oper} (w0 : World) (hb : Below w0.heap.size w0 w) (hm : P.follows .mixedOrders = true) (hB : Region.lexB .any l.toArray = true)
    (h : wpQuiet P l.toArray (fun w' => ∃ x : Grown w0, w' = x.w) (fun a' => ∀ w', (∃ x : Grown w0, w' = x.w) → Q .normal a' w') l a) : (Code.region id l.toArray true).wp P Q a w :=
  wp_region_quiet (C := fun w' => ∃ x : Grown w0, w' = x.w) hm hB ⟨⟨{ w with drawn := w.drawn + 1 }, ⟨hb.os, hb.tape, hb.output, hb.size, hb.block⟩⟩, rfl⟩ (by simpa using h)
/-- A call in such a region. -/
theorem grown_call {P : Program} {f : FuncId} {args : Array Value} {w0 : World} {x : Grown w0} {v : Value} (h : ∀ w, Below w0.heap.size w0 w → Calls P f args w fun e w' => e = .returned v ∧ Below w.heap.size w w') :
    Calls P f args x.w fun e w'' => e = .returned v ∧ ∃ y : Grown w0, w'' = y.w :=
  (h x.w x.below).mono fun _ w' ⟨he, hb⟩ => ⟨he, ⟨w', x.below.trans (hb.mono x.below.size)⟩, rfl⟩

theorem int_any (n : Int) (w : World) : Calls Tryz.prog 20 #[.int .i64 n] w fun e w' => e = .returned (wd (0, n)) ∧ Below w.heap.size w w' := by
  go_enter Tryz.func20, Tryz.ntmps20
  go_wp2
  refine bodyPost_ret (v := wd (0, n)) (by simp [results, Tryz.results20, go_sem]) rfl ⟨rfl, (Below.refl _ _).alloc (Nat.le_refl _) _⟩
theorem sym_any (n : Int) (w : World) : Calls Tryz.prog 19 #[.int .i64 n] w fun e w' => e = .returned (wd (1, n)) ∧ Below w.heap.size w w' := by
  go_enter Tryz.func19, Tryz.ntmps19
  go_wp2
  refine bodyPost_ret (v := wd (1, n)) (by simp [results, Tryz.results19, go_sem]) rfl ⟨rfl, (Below.refl _ _).alloc (Nat.le_refl _) _⟩
theorem nil_any (w : World) : Calls Tryz.prog 45 #[] w fun e w' => e = .returned (wd (1, 0)) ∧ Below w.heap.size w w' := by
  have HS := Lib.hid (sym_any 0)
  go_enter Tryz.func45, Tryz.ntmps45
  go_wp2_with fail
  refine (HS.out _).mono ?_
  rintro e w1 ⟨rfl, hb⟩
  obtain ⟨b0, b1, e0, e1⟩ := (one_new hb).two
  go_wp2_with fail
  refine bodyPost_ret (v := wd (1, 0)) (by simp [results, Tryz.results45, go_sem, b0, b1]) rfl ⟨rfl, ?_⟩
  exact ((((Below.refl w.heap.size w).alloc (Nat.le_refl _) _).trans (hb.mono (by simp))).setCell (by simp) _).setCell (by simp) _
/-- The number that Pick picks. -/
def pickZ (x n : Int) : Int := if n ≤ 0 then 0 else if x.tmod n < 0 then x.tmod n + n else x.tmod n
theorem pick_range (x n : Int) (h : 0 < n) : 0 ≤ pickZ x n ∧ pickZ x n < n := by
  have h1 := Int.tmod_lt_of_pos x h
  have h2 := Int.lt_tmod_of_pos x h
  unfold pickZ
  rw [if_neg (by omega)]
  split <;> omega
set_option maxHeartbeats 1000000 in
theorem pick_any (x n : Int) (w : World) (h : 0 < n) (hn : n ≤ 4611686018427387904) :
    Calls Tryz.prog 28 #[.int .i64 x, .int .i64 n] w fun e w' => e = .returned (.int .i64 (pickZ x n)) ∧ w = w' := by
  have h1 := Int.tmod_lt_of_pos x h
  have h2 := Int.lt_tmod_of_pos x h
  unfold pickZ
  rw [if_neg (by omega)]
  by_cases hneg : x.tmod n < 0
  · rw [if_pos hneg]
    go_enter Tryz.func28, Tryz.ntmps28
    go_wp2
    go_ret
    exact ⟨rfl, rfl⟩
  · rw [if_neg hneg]
    go_enter Tryz.func28, Tryz.ntmps28
    go_wp2
    go_ret
    exact ⟨rfl, rfl⟩
theorem pick_zero (x n : Int) (w : World) (h : n ≤ 0) :
    Calls Tryz.prog 28 #[.int .i64 x, .int .i64 n] w fun e w' => e = .returned (.int .i64 0) ∧ w = w' := by
  go_enter Tryz.func28, Tryz.ntmps28
  go_wp2
  go_ret
  exact ⟨rfl, rfl⟩
end Go.Proofs.YtlibdhnlmekmhaaGreatDoor.Kit
end

/- The chapter's example. -/
section
namespace Go.Proofs.YtlibdhnlmekmhaaGreatDoor.Rd
set_option maxRecDepth 100000
open Go.RowKit Go.Maps Go.Lib
open Go.Proofs.YtlibdhnlmekmhaaGreatDoor.Own Go.Proofs.YtlibdhnlmekmhaaGreatDoor.Hp Go.Proofs.YtlibdhnlmekmhaaGreatDoor.Rep Go.Proofs.YtlibdhnlmekmhaaGreatDoor.Get Go.Proofs.YtlibdhnlmekmhaaGreatDoor.Add Go.Proofs.YtlibdhnlmekmhaaGreatDoor.Make Go.Proofs.YtlibdhnlmekmhaaGreatDoor.Utf Go.Proofs.YtlibdhnlmekmhaaGreatDoor.Strs Go.Proofs.YtlibdhnlmekmhaaGreatDoor.Clone Go.Proofs.YtlibdhnlmekmhaaGreatDoor.Car Go.Proofs.YtlibdhnlmekmhaaGreatDoor.Kit
open Go.Proofs.YtlibdhnlmekmhaaGreatDoor.Nt hiding Wd

def exS : ByteArray := ⟨#[40, 97, 32, 46, 32, 98, 41]⟩
def exA : Ans := readR 9 (runes exS.data.toList) 0 Quick.noObs t0
theorem exA_ans : (exA.x, exA.en, exA.c, exA.k) = ((2, 0), 7, 0, 0) := by kernel_rfl
theorem exA_ob : exA.ob 0 = some (.cons (1, 62) (1, 63)) := by kernel_rfl
theorem exA_car : carO exA.ob (2, 0) = ((1, 62), 0) := by kernel_rfl
theorem exA_cdr : cdrO exA.ob (2, 0) = ((1, 63), 0) := by kernel_rfl
theorem exS_valid : validD exS.data.toList = true := by kernel_rfl
theorem HT.car {w : World} {base hp lim tp : Nat} {ob : Obs} {tb : Tb} {F : Nat → Prop} (h : HT w base hp lim tp ob tb F) (x : Wd) :
    Reads w 17 #[ptr hp, wd x] (.tuple #[wd (carO ob x).1, .int .i64 (carO ob x).2]) := by
  obtain ⟨lh, lt, PH, PT, hH, hT, hd, hF⟩ := h.is
  exact car_any hH x
theorem HT.cdr {w : World} {base hp lim tp : Nat} {ob : Obs} {tb : Tb} {F : Nat → Prop} (h : HT w base hp lim tp ob tb F) (x : Wd) :
    Reads w 63 #[ptr hp, wd x] (.tuple #[wd (cdrO ob x).1, .int .i64 (cdrO ob x).2]) := by
  obtain ⟨lh, lt, PH, PT, hH, hT, hd, hF⟩ := h.is
  exact cdr_any hH x
theorem HTOk.bel {w0 w w' : World} {base hp lim tp : Nat} {ob ob' : Obs} {tb tb' : Tb} {F : Nat → Prop} (h : HTOk w w' base hp lim tp ob tb F) (h0 : HT w base hp lim tp ob' tb' F) (hb : base ≤ w.heap.size) : Below base w w' := by
  obtain ⟨F', h1, h2⟩ := h
  exact h2.keeps.below hb fun b hF => (h0.lt hF).1

set_option maxHeartbeats 4000000 in
theorem lives_any (w : World) (hS : Sys w) : Calls Tryz.prog 14 #[] w fun e w' => e = .returned (.bool true) ∧ Below w.heap.size w w' := by
  have hFr : Calls Tryz.prog 15 #[.int .i64 9] w _ := fresh_any 9 (by omega) (by omega) w hS.tabs
  have HFr := Lib.hid hFr
  have HS := Lib.hid hS
  obtain ⟨A, hA⟩ : ∃ A, exA = A := ⟨_, rfl⟩
  have hans := exA_ans
  have hcar := exA_car
  have hcdr := exA_cdr
  rw [hA] at hans hcar hcdr
  simp only [Prod.mk.injEq] at hans
  have HA := Lib.hid hA
  have HAn := Lib.hid hans
  have HCr := Lib.hid hcar
  have HCd := Lib.hid hcdr
  clear hFr hS hA hans hcar hcdr
  go_enter Tryz.func14, Tryz.ntmps14
  go_wp2_with fail
  refine HFr.out.mono ?_
  rintro e w1 ⟨tp, F, rfl, hH, hb⟩
  have HH := Lib.hid hH
  have HB1 := Lib.hid hb
  have hrd : Calls Tryz.prog 16 #[ptr w.heap.size, tptr tp, .string ⟨#[40, 97, 32, 46, 32, 98, 41]⟩, .int .i64 0] w1 _ := read_any (w0 := w) hH hb (Nat.le_refl _) HS.out (by rw [t0_length]; omega) exS (by decide) exS_valid 0 (A := A) HA.out (by rw [HAn.out.2.2.1]; decide)
  rw [HAn.out.1, HAn.out.2.1, HAn.out.2.2.1, HAn.out.2.2.2] at hrd
  have HRd := Lib.hid hrd
  clear hH hb hrd
  go_wp2_with fail
  refine HRd.out.mono ?_
  rintro e w2 ⟨rfl, hok⟩
  have hb2 := hok.bel (w0 := w) HH.out HH.out.high
  obtain ⟨F2, hH2, _⟩ := hok
  have HB2 := Lib.hid (HB1.out.trans hb2)
  have HH2 := Lib.hid hH2
  clear hb2 hH2
  go_wp2_with fail
  obtain ⟨W3, hW3⟩ : ∃ W, (w2.alloc (.cells #[.int .i64 2, .int .i64 0] 28)).alloc fbox0 = W := ⟨_, rfl⟩
  have hb3 : Below w2.heap.size w2 W3 := by rw [← hW3]; exact ((Below.refl _ _).alloc (Nat.le_refl _) _).alloc (by simp) _
  have k3 : Blk W3 w2.heap.size #[.int .i64 2, .int .i64 0] 28 := by rw [← hW3]; exact (Blk.new w2 _ _).below (bel_box _ _)
  have k5 : Blk W3 (w2.heap.size + 1) #[.int .i64 0, .int .i64 0] 31 := by
    have := Blk.new (w2.alloc (.cells #[.int .i64 2, .int .i64 0] 28)) #[.int .i64 0, .int .i64 0] 31
    rw [World.size_alloc] at this
    rw [← hW3]
    exact this
  have hH3 := HH2.out.below hb3
  have hc := (hH3.car (2, 0)).at
  rw [HCr.out] at hc
  have HC := Lib.hid hc
  have HB3 := Lib.hid (HB2.out.trans (hb3.mono HB2.out.size))
  have HH3 := Lib.hid hH3
  have HK3 := Lib.hid k3
  have HK5 := Lib.hid k5
  clear hH3 hc hb3 k3 k5
  rw [hW3]
  refine HC.out.mono ?_
  rintro e w4 ⟨rfl, hb4⟩
  have hb5 := hb4.trans ((bel_box w4 (.cells #[.int .i64 1, .int .i64 62] 28)).mono hb4.size)
  have hH5 := HH3.out.below hb5
  obtain ⟨x0, x1, _, _⟩ := (HK3.out.below hb5).two
  have hc := (hH5.cdr (2, 0)).at
  rw [HCd.out] at hc
  have HC5 := Lib.hid hc
  have HB5 := Lib.hid (HB3.out.trans (hb5.mono HB3.out.size))
  have HK5' := Lib.hid (HK5.out.below hb5)
  have HK6 := Lib.hid (Blk.new w4 #[.int .i64 1, .int .i64 62] 28)
  clear hb4 hb5 hH5 hc hW3
  go_wp2_with fail
  refine HC5.out.mono ?_
  rintro e w6 ⟨rfl, hb6⟩
  have hb7 := hb6.trans ((bel_box w6 (.cells #[.int .i64 1, .int .i64 63] 28)).mono hb6.size)
  have hB7 := HB5.out.trans (hb7.mono HB5.out.size)
  have r5 := HK5'.out.below hb7
  have r6 := HK6.out.below hb7
  have r8 := Blk.new w6 #[.int .i64 1, .int .i64 63] 28
  obtain ⟨W7, hW7⟩ : ∃ W, w6.alloc (.cells #[.int .i64 1, .int .i64 63] 28) = W := ⟨_, rfl⟩
  rw [hW7] at hB7 r5 r6 r8
  have q1 := fun x : Grown W7 => (r5.below x.below).cell 0 _ rfl
  have q2 := fun x : Grown W7 => (r5.below x.below).cell 1 _ rfl
  have q3 := fun x : Grown W7 => (r6.below x.below).cell 0 _ rfl
  have q4 := fun x : Grown W7 => (r6.below x.below).cell 1 _ rfl
  have q5 := fun x : Grown W7 => (r8.below x.below).cell 0 _ rfl
  have q6 := fun x : Grown W7 => (r8.below x.below).cell 1 _ rfl
  have HB7 := Lib.hid hB7
  clear hb6 hb7 hB7 r5 r6 r8 x0 x1
  go_wp2_with fail
  clear hW7
  refine wp_region_grown W7 (Below.refl _ _) (by kernel_rfl) (by kernel_rfl) ?_
  repeat (go_big_quiet_step ((go_at_call 19; exact grown_call (fun w _ => sym_any _ w))))
  refine wpQuiet_nil ?_
  rintro _ ⟨x, rfl⟩
  have HX := Lib.hid (HB7.out.trans (x.below.mono HB7.out.size))
  go_wp2_with fail
  go_ret
  exact ⟨rfl, HX.out⟩
end Go.Proofs.YtlibdhnlmekmhaaGreatDoor.Rd
end

/- Read with a heap that is not valid; what the chapter's examples give, by the model. -/
section
namespace Go.Proofs.YtlibdhnlmekmhaaGreatDoor.Rd
set_option maxRecDepth 100000
open Go.RowKit Go.Maps Go.Lib
open Go.Proofs.YtlibdhnlmekmhaaGreatDoor.Own Go.Proofs.YtlibdhnlmekmhaaGreatDoor.Hp Go.Proofs.YtlibdhnlmekmhaaGreatDoor.Rep Go.Proofs.YtlibdhnlmekmhaaGreatDoor.Get Go.Proofs.YtlibdhnlmekmhaaGreatDoor.Add Go.Proofs.YtlibdhnlmekmhaaGreatDoor.Make Go.Proofs.YtlibdhnlmekmhaaGreatDoor.Utf Go.Proofs.YtlibdhnlmekmhaaGreatDoor.Strs Go.Proofs.YtlibdhnlmekmhaaGreatDoor.Clone Go.Proofs.YtlibdhnlmekmhaaGreatDoor.Car Go.Proofs.YtlibdhnlmekmhaaGreatDoor.Kit
open Go.Proofs.YtlibdhnlmekmhaaGreatDoor.Nt hiding Wd

theorem limit_null (w : World) : Calls Tryz.prog 118 #[.pointer none] w fun e w' => e = .returned (.int .i64 0) ∧ w = w' := by
  have HV := Lib.hid (Base.valid_nil w)
  go_enter Tryz.func118, Tryz.ntmps118
  go_wp2_with (go_at_call 69; refine HV.out.mono ?_; rintro e w' ⟨rfl, rfl⟩)
  go_ret
  exact ⟨rfl, rfl⟩
theorem newParser_null (tp : Nat) (u : ByteArray) (w : World) : Calls Tryz.prog 65 #[.pointer none, tptr tp, .string u] w fun e w' => e = faultE 1 0 ∧ w = w' := by
  have HL := Lib.hid (limit_null w)
  unfold faultE
  go_enter Tryz.func65, Tryz.ntmps65
  go_wp2_with (go_at_call 118; refine HL.out.mono ?_; rintro e w' ⟨rfl, rfl⟩)
  exact ⟨rfl, rfl, rfl⟩
set_option maxHeartbeats 1000000 in
theorem read_null (tp : Nat) (u : ByteArray) (at_ : Int) (w : World) :
    Calls Tryz.prog 16 #[.pointer none, tptr tp, .string u, .int .i64 at_] w fun e w' => e = .returned (.tuple #[wd (0, 0), .int .i64 0, .agg #[.int .i64 1, .int .i64 0]]) ∧ Below w.heap.size w w' := by
  have hmf : ∀ (fn : Fn) (first cap : Array Value) (w : World), (Instr.makeFunc fn first cap).run Tryz.prog w = .ok (.func fn first cap) w := fun _ _ _ _ => rfl
  have hb : Below w.heap.size w ((w.alloc wbox0).alloc fbox0) := ((Below.refl _ _).alloc (Nat.le_refl _) _).alloc (by simp) _
  have k1 : Blk ((w.alloc wbox0).alloc fbox0) w.heap.size #[.int .i64 0, .int .i64 0] 28 := (Blk.new w _ _).below (bel_box _ _)
  have k2 : Blk ((w.alloc wbox0).alloc fbox0) (w.heap.size + 1) #[.int .i64 0, .int .i64 0] 31 := by
    have := Blk.new (w.alloc wbox0) #[.int .i64 0, .int .i64 0] 31
    rwa [World.size_alloc] at this
  have HN := Lib.hid (newParser_null tp u ((w.alloc wbox0).alloc fbox0))
  have HB := Lib.hid hb
  have HK1 := Lib.hid k1
  have HK2 := Lib.hid k2
  clear hb k1 k2
  go_enter_defers Tryz.func16, Tryz.ntmps16
  go_wp2_with fail
  refine HN.out.mono ?_
  rintro e w3 ⟨rfl, rfl⟩
  unfold faultE
  go_wp2_with fail
  refine leaves_cons (f := 64) (args := #[.pointer (some ⟨w.heap.size + 1, 0, none⟩)]) (by simp) (by simp [go_sem]) ?_
  refine (catch_read (w.heap.size + 1) 0 0 1 0 [] _ HK2.out).mono ?_
  rintro e u' w'' ⟨rfl, rfl, rfl⟩
  have hk : Keeps (fun b => b = w.heap.size + 1) ((w.alloc wbox0).alloc fbox0) ((((w.alloc wbox0).alloc fbox0).setCell ⟨w.heap.size + 1, 0, none⟩ (.int .i64 1)).setCell ⟨w.heap.size + 1, 1, none⟩ (.int .i64 0)) := (keeps_set _ _ 0 _).trans (keeps_set _ _ 1 _)
  have hbl : Below w.heap.size w ((((w.alloc wbox0).alloc fbox0).setCell ⟨w.heap.size + 1, 0, none⟩ (.int .i64 1)).setCell ⟨w.heap.size + 1, 1, none⟩ (.int .i64 0)) := HB.out.trans (hk.below HB.out.size fun b e => by omega)
  obtain ⟨g0, g1, _, _⟩ := (HK1.out.keeps hk (by omega)).two
  have hb2 : Blk ((((w.alloc wbox0).alloc fbox0).setCell ⟨w.heap.size + 1, 0, none⟩ (.int .i64 1)).setCell ⟨w.heap.size + 1, 1, none⟩ (.int .i64 0)) (w.heap.size + 1) #[.int .i64 1, .int .i64 0] 31 := by simpa using (HK2.out.set 0 (.int .i64 1)).set 1 (.int .i64 0)
  obtain ⟨f0, f1, _, _⟩ := hb2.two
  have HBl := Lib.hid hbl
  clear hk hbl hb2
  simp [Leaves, settle, results, Tryz.results16, go_sem, g0, g1, f0, f1]
  exact ((Below.refl _ _).alloc (Nat.le_refl _) _).alloc (by simp) _
end Go.Proofs.YtlibdhnlmekmhaaGreatDoor.Rd
end

/- What the chapter's examples give, by the model. -/
section
namespace Go.Proofs.YtlibdhnlmekmhaaGreatDoor.Rd
set_option maxRecDepth 100000
open Go.RowKit Go.Maps Go.Lib
open Go.Proofs.YtlibdhnlmekmhaaGreatDoor.Own Go.Proofs.YtlibdhnlmekmhaaGreatDoor.Hp Go.Proofs.YtlibdhnlmekmhaaGreatDoor.Rep Go.Proofs.YtlibdhnlmekmhaaGreatDoor.Get Go.Proofs.YtlibdhnlmekmhaaGreatDoor.Add Go.Proofs.YtlibdhnlmekmhaaGreatDoor.Make Go.Proofs.YtlibdhnlmekmhaaGreatDoor.Utf Go.Proofs.YtlibdhnlmekmhaaGreatDoor.Strs Go.Proofs.YtlibdhnlmekmhaaGreatDoor.Clone Go.Proofs.YtlibdhnlmekmhaaGreatDoor.Car Go.Proofs.YtlibdhnlmekmhaaGreatDoor.Kit
open Go.Proofs.YtlibdhnlmekmhaaGreatDoor.Nt hiding Wd

def q1 : ByteArray := ⟨#[39, 40, 49, 32, 34, 120, 34, 41, 32, 59, 32, 99]⟩
def q2 : ByteArray := ⟨#[63, 92, 67, 45, 97, 32, 63, 92, 77, 45, 120, 32, 63, 92, 67, 45, 37, 32, 63, 97, 32, 35, 35, 32, 35, 39, 99, 97, 114, 32, 91, 49, 32, 50, 93]⟩
def q3 : ByteArray := ⟨#[40, 97]⟩
def q4 : ByteArray := ⟨#[41]⟩
def q5 : ByteArray := ⟨#[50, 51, 48, 53, 56, 52, 51, 48, 48, 57, 50, 49, 51, 54, 57, 51, 57, 53, 50]⟩
def q6 : ByteArray := ⟨#[45, 50, 51, 48, 53, 56, 52, 51, 48, 48, 57, 50, 49, 51, 54, 57, 51, 57, 53, 50]⟩
def q7 : ByteArray := ⟨#[32, 59, 32, 120]⟩
def q8 : ByteArray := ⟨#[40, 46, 32, 97, 41]⟩
def q9 : ByteArray := ⟨#[40, 97, 32, 46, 32, 98, 32, 99, 41]⟩
def q10 : ByteArray := ⟨#[34, 97, 92, 113, 34]⟩
def a1 : Ans := readR 40 (runes q1.data.toList) 0 Quick.noObs t0
def r2 : Res (List Wd) := allM 40 (2 * (runes q2.data.toList).length + 1) ((runes q2.data.toList).length + 1) [] ⟨runes q2.data.toList, a1.ob, a1.tb⟩
def l2 : List Wd := match r2 with | .ok l _ => l | .err .. => []
def s2 : St := match r2 with | .ok _ s => s | .err _ _ ob tb => ⟨[], ob, tb⟩
def isOk {α : Type} : Res α → Bool | .ok .. => true | .err .. => false
theorem ok_eq {r : Res (List Wd)} (h : isOk r = true) : r = .ok (match r with | .ok l _ => l | .err .. => []) (match r with | .ok _ s => s | .err _ _ ob tb => ⟨[], ob, tb⟩) := by
  cases r with
  | ok => rfl
  | err => cases h
def a3 : Ans := readR 40 (runes q3.data.toList) 0 s2.ob s2.tb
def a4 : Ans := readR 40 (runes q4.data.toList) 0 a3.ob a3.tb
def a5 : Ans := readR 40 (runes q5.data.toList) 0 a4.ob a4.tb
def a6 : Ans := readR 40 (runes q6.data.toList) 0 a5.ob a5.tb
def a7 : Ans := readR 40 (runes q7.data.toList) 0 a6.ob a6.tb
def a8 : Ans := readR 40 (runes q8.data.toList) 0 a7.ob a7.tb
def a9 : Ans := readR 40 (runes q9.data.toList) 0 a8.ob a8.tb
def a10 : Ans := readR 40 (runes q10.data.toList) 0 a9.ob a9.tb
theorem a1_ans : (a1.x, a1.en, a1.c, a1.k) = ((2, 4), 8, 0, 0) := by kernel_rfl
theorem a1_car : carO a1.ob (2, 4) = ((1, 2), 0) := by kernel_rfl
theorem r2_ok : isOk r2 = true := by kernel_rfl
theorem l2_eq : (l2.length, l2.take 4) = (7, [(0, 1), (0, 134217848), (0, 67108901), (0, 97)]) := by kernel_rfl
theorem a3_ans : (a3.x, a3.en, a3.c, a3.k) = ((0, 0), 0, 5, 2) := by kernel_rfl
theorem a4_ans : (a4.x, a4.en, a4.c, a4.k) = ((0, 0), 0, 5, 0) := by kernel_rfl
theorem a5_ans : (a5.x, a5.en, a5.c, a5.k) = ((0, 0), 0, 15, 0) := by kernel_rfl
theorem a6_ans : (a6.x, a6.en, a6.c, a6.k) = ((0, -2305843009213693952), 20, 0, 0) := by kernel_rfl
theorem a7_ans : (a7.x, a7.en, a7.c, a7.k) = ((0, 0), 0, 13, 4) := by kernel_rfl
theorem a8_ans : (a8.x, a8.en, a8.c, a8.k) = ((0, 0), 0, 5, 1) := by kernel_rfl
theorem a9_ans : (a9.x, a9.en, a9.c, a9.k) = ((0, 0), 0, 5, 7) := by kernel_rfl
theorem a10_ans : (a10.x, a10.en, a10.c, a10.k) = ((0, 0), 0, 5, 2) := by kernel_rfl
theorem q1_valid : validD q1.data.toList = true := by kernel_rfl
theorem q2_valid : validD q2.data.toList = true := by kernel_rfl
theorem q3_valid : validD q3.data.toList = true := by kernel_rfl
theorem q4_valid : validD q4.data.toList = true := by kernel_rfl
theorem q5_valid : validD q5.data.toList = true := by kernel_rfl
theorem q6_valid : validD q6.data.toList = true := by kernel_rfl
theorem q7_valid : validD q7.data.toList = true := by kernel_rfl
theorem q8_valid : validD q8.data.toList = true := by kernel_rfl
theorem q9_valid : validD q9.data.toList = true := by kernel_rfl
theorem q10_valid : validD q10.data.toList = true := by kernel_rfl
theorem tb_lens : decide (0 < a1.tb.syms.length ∧ 0 < s2.tb.syms.length ∧ 0 < a3.tb.syms.length ∧ 0 < a4.tb.syms.length ∧ 0 < a5.tb.syms.length ∧ 0 < a6.tb.syms.length ∧ 0 < a7.tb.syms.length ∧ 0 < a8.tb.syms.length ∧ 0 < a9.tb.syms.length) = true := by kernel_rfl
end Go.Proofs.YtlibdhnlmekmhaaGreatDoor.Rd
end
