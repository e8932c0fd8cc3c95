/- Calls of Read, All and fresh as steps between states of a heap and a table. | ReadNames: its walk over any states between the calls. | Numerals as ReadInts writes them, and what Read answers. -/
import Derived.Test.YtlibdhnlmekmhaaGreatDoorMg33
/- Calls of Read, All and fresh as steps between states of a heap and a table. -/
section
namespace Go.Proofs.YtlibdhnlmekmhaaGreatDoor.Rd
set_option maxRecDepth 100000
open Go.RowKit Go.Maps Go.Lib
open Go.Proofs.YtlibdhnlmekmhaaGreatDoor.Own Go.Proofs.YtlibdhnlmekmhaaGreatDoor.Hp Go.Proofs.YtlibdhnlmekmhaaGreatDoor.Rep Go.Proofs.YtlibdhnlmekmhaaGreatDoor.Get Go.Proofs.YtlibdhnlmekmhaaGreatDoor.Add Go.Proofs.YtlibdhnlmekmhaaGreatDoor.Make Go.Proofs.YtlibdhnlmekmhaaGreatDoor.Utf Go.Proofs.YtlibdhnlmekmhaaGreatDoor.Strs Go.Proofs.YtlibdhnlmekmhaaGreatDoor.Clone Go.Proofs.YtlibdhnlmekmhaaGreatDoor.Car Go.Proofs.YtlibdhnlmekmhaaGreatDoor.Kit
open Go.Proofs.YtlibdhnlmekmhaaGreatDoor.Nt hiding Wd

theorem NS.car {w wr : World} {lim tp : Nat} {ob : Obs} {tb : Tb} {bs : List Bx} (h : NS w wr lim tp ob tb bs) (x : Wd) :
    Reads wr 17 #[ptr w.heap.size, wd x] (.tuple #[wd (carO ob x).1, .int .i64 (carO ob x).2]) := by
  obtain ⟨F, hH, _⟩ := h.st
  exact hH.car x
/-- A box of a word. -/
abbrev wbx (b : Nat) (x y : Int) : Bx := ⟨b, #[.int .i64 x, .int .i64 y], 28⟩
/-- A box of a fault. -/
abbrev fbx (b : Nat) (x y : Int) : Bx := ⟨b, #[.int .i64 x, .int .i64 y], 31⟩
abbrev wob (x y : Int) : Obj := .cells #[.int .i64 x, .int .i64 y] 28
abbrev fob (x y : Int) : Obj := .cells #[.int .i64 x, .int .i64 y] 31
theorem NS.word {w wr : World} {lim tp : Nat} {ob : Obs} {tb : Tb} {bs : List Bx} (h : NS w wr lim tp ob tb bs) (x y : Int) : NS w (wr.alloc (wob x y)) lim tp ob tb (wbx wr.heap.size x y :: bs) := h.alloc _ _
theorem NS.fault {w wr : World} {lim tp : Nat} {ob : Obs} {tb : Tb} {bs : List Bx} (h : NS w wr lim tp ob tb bs) (x y : Int) : NS w (wr.alloc (fob x y)) lim tp ob tb (fbx wr.heap.size x y :: bs) := h.alloc _ _
/-- Behind a Read: its two boxes. -/
theorem NS.two {w wr : World} {lim tp : Nat} {ob : Obs} {tb : Tb} {bs : List Bx} (h : NS w wr lim tp ob tb bs) (x y c k : Int) :
    NS w ((wr.alloc (wob x y)).alloc (fob c k)) lim tp ob tb (fbx (wr.heap.size + 1) c k :: wbx wr.heap.size x y :: bs) := by
  have := (h.word x y).fault c k
  rwa [World.size_alloc] at this

def FStep (lim : Nat) (ob : Obs) (tb : Tb) : Prop :=
  ∀ w : World, Tabs w → Calls Tryz.prog 15 #[.int .i64 (lim : Int)] w fun e w' => ∃ tp, e = .returned (.tuple #[ptr w.heap.size, tptr tp]) ∧ NS w w' lim tp ob tb []
theorem FStep.of {lim : Nat} (h1 : 1 ≤ lim) (h2 : lim ≤ 65536) : FStep lim Quick.noObs t0 := by
  intro w hT
  refine (fresh_any lim h1 h2 w hT).mono ?_
  rintro e w' ⟨tp, F, rfl, hH, hb⟩
  exact ⟨tp, rfl, NS.start hH hb⟩
def RStep (lim : Nat) (u : ByteArray) (at_ : Int) (ob : Obs) (tb : Tb) (x : Wd) (en c k : Int) (ob' : Obs) (tb' : Tb) : Prop :=
  ∀ (w wr : World) (tp : Nat) (bs : List Bx), Sys w → NS w wr lim tp ob tb bs →
    Calls Tryz.prog 16 #[ptr w.heap.size, tptr tp, .string u, .int .i64 at_] wr fun e w' => e = .returned (.tuple #[wd x, .int .i64 en, .agg #[.int .i64 c, .int .i64 k]]) ∧ NS w w' lim tp ob' tb' bs
theorem RStep.of {lim : Nat} {u : ByteArray} {at_ : Int} {ob : Obs} {tb : Tb} (h1 : 0 < tb.syms.length) (hu : u.size < 1000000) (hv : validD u.data.toList = true) {A : Ans} (hA : readR lim (runes u.data.toList) at_ ob tb = A)
    {x : Wd} {en c k : Int} (hans : (A.x, A.en, A.c, A.k) = (x, en, c, k)) (hnf : c ≠ 7) : RStep lim u at_ ob tb x en c k A.ob A.tb :=
  fun _ _ _ _ hS h => h.read hS h1 u hu hv at_ hA hans hnf
def AStep (lim : Nat) (u : ByteArray) (ob : Obs) (tb : Tb) (l : List Wd) (ob' : Obs) (tb' : Tb) : Prop :=
  ∀ (w wr : World) (tp : Nat) (bs : List Bx), Sys w → NS w wr lim tp ob tb bs →
    Calls Tryz.prog 18 #[ptr w.heap.size, tptr tp, .string u] wr fun e w' => ∃ g c cur, e = .returned (.tuple #[.slice (some ⟨g, 0, none⟩) l.length c, .agg #[.int .i64 0, .int .i64 0]]) ∧ cur.toList.take (l.length * 2) = wcells l ∧ NS w w' lim tp ob' tb' (⟨g, cur, 28⟩ :: bs)
theorem AStep.of {lim : Nat} {u : ByteArray} {ob : Obs} {tb : Tb} (h1 : 0 < tb.syms.length) (hu : u.size < 1000000) (hv : validD u.data.toList = true) {l : List Wd} {s : St}
    (hR : allM lim (2 * (runes u.data.toList).length + 1) ((runes u.data.toList).length + 1) [] ⟨runes u.data.toList, ob, tb⟩ = .ok l s) (hl : l ≠ []) : AStep lim u ob tb l s.ob s.tb :=
  fun _ _ _ _ hS h => h.all hS h1 u hu hv hR hl
/-- A fact of a box's cell. -/
theorem NS.cell {w wr : World} {lim tp : Nat} {ob : Obs} {tb : Tb} {bs : List Bx} (h : NS w wr lim tp ob tb bs) (p : Bx) (hp : p ∈ bs) (i : Nat) (v : Value) (hv : p.cs[i]? = some v) : ∀ y : Grown wr, y.w.cell? ⟨p.b, i, none⟩ = some v :=
  fun y => ((h.box p hp).below y.below).cell i v hv
end Go.Proofs.YtlibdhnlmekmhaaGreatDoor.Rd
end

/- ReadNames: its walk over any states between the calls. -/
section
namespace Go.Proofs.YtlibdhnlmekmhaaGreatDoor.Rd
set_option maxRecDepth 100000
open Go.RowKit Go.Maps Go.Lib
open Go.Proofs.YtlibdhnlmekmhaaGreatDoor.Own Go.Proofs.YtlibdhnlmekmhaaGreatDoor.Hp Go.Proofs.YtlibdhnlmekmhaaGreatDoor.Rep Go.Proofs.YtlibdhnlmekmhaaGreatDoor.Get Go.Proofs.YtlibdhnlmekmhaaGreatDoor.Add Go.Proofs.YtlibdhnlmekmhaaGreatDoor.Make Go.Proofs.YtlibdhnlmekmhaaGreatDoor.Utf Go.Proofs.YtlibdhnlmekmhaaGreatDoor.Strs Go.Proofs.YtlibdhnlmekmhaaGreatDoor.Clone Go.Proofs.YtlibdhnlmekmhaaGreatDoor.Car Go.Proofs.YtlibdhnlmekmhaaGreatDoor.Kit
open Go.Proofs.YtlibdhnlmekmhaaGreatDoor.Nt hiding Wd

theorem cur_at {cur : Array Value} {n : Nat} {L : List Value} (h : cur.toList.take n = L) {i : Nat} (hi : i < n) {v : Value} (hv : L[i]? = some v := by rfl) : cur[i]? = some v := by
  rw [← h, List.getElem?_take, if_pos hi] at hv
  rw [← Array.getElem?_toList]
  exact hv
theorem blank_at (c : Int) (b : Bool) (h : blankB c = b) (w : World) : Calls Tryz.prog 21 #[.int .i64 c] w fun e w' => e = .returned (.bool b) ∧ Below w.heap.size w w' := (blank_any c w).mono (by rintro e w' ⟨rfl, rfl⟩; exact ⟨by rw [h], Below.refl _ _⟩)
theorem delim_at (c : Int) (b : Bool) (h : delimB c = b) (w : World) : Calls Tryz.prog 22 #[.int .i64 c] w fun e w' => e = .returned (.bool b) ∧ Below w.heap.size w w' := (delim_any c w).mono (by rintro e w' ⟨rfl, rfl⟩; exact ⟨by rw [h], Below.refl _ _⟩)
/-- What the calls of the statement give, from state to state. -/
structure Ex (o : Nat → Obs) (t : Nat → Tb) (l : List Wd) (rest : List Value) : Prop where
  f : FStep 40 (o 0) (t 0)
  r1 : RStep 40 ⟨#[39, 40, 49, 32, 34, 120, 34, 41, 32, 59, 32, 99]⟩ 0 (o 0) (t 0) (2, 4) 8 0 0 (o 1) (t 1)
  r2 : AStep 40 ⟨#[63, 92, 67, 45, 97, 32, 63, 92, 77, 45, 120, 32, 63, 92, 67, 45, 37, 32, 63, 97, 32, 35, 35, 32, 35, 39, 99, 97, 114, 32, 91, 49, 32, 50, 93]⟩ (o 1) (t 1) l (o 2) (t 2)
  r3 : RStep 40 ⟨#[40, 97]⟩ 0 (o 2) (t 2) (0, 0) 0 5 2 (o 3) (t 3)
  r4 : RStep 40 ⟨#[41]⟩ 0 (o 3) (t 3) (0, 0) 0 5 0 (o 4) (t 4)
  r5 : RStep 40 ⟨#[50, 51, 48, 53, 56, 52, 51, 48, 48, 57, 50, 49, 51, 54, 57, 51, 57, 53, 50]⟩ 0 (o 4) (t 4) (0, 0) 0 15 0 (o 5) (t 5)
  r6 : RStep 40 ⟨#[45, 50, 51, 48, 53, 56, 52, 51, 48, 48, 57, 50, 49, 51, 54, 57, 51, 57, 53, 50]⟩ 0 (o 5) (t 5) (0, (-2305843009213693952)) 20 0 0 (o 6) (t 6)
  r7 : RStep 40 ⟨#[32, 59, 32, 120]⟩ 0 (o 6) (t 6) (0, 0) 0 13 4 (o 7) (t 7)
  r8 : RStep 40 ⟨#[40, 46, 32, 97, 41]⟩ 0 (o 7) (t 7) (0, 0) 0 5 1 (o 8) (t 8)
  r9 : RStep 40 ⟨#[40, 97, 32, 46, 32, 98, 32, 99, 41]⟩ 0 (o 8) (t 8) (0, 0) 0 5 7 (o 9) (t 9)
  r10 : RStep 40 ⟨#[34, 97, 92, 113, 34]⟩ 0 (o 9) (t 9) (0, 0) 0 5 2 (o 10) (t 10)
  car : carO (o 1) (2, 4) = ((1, 2), 0)
  len : l.length = 7
  cells : wcells l = [.int .i64 0, .int .i64 1, .int .i64 0, .int .i64 134217848, .int .i64 0, .int .i64 67108901, .int .i64 0, .int .i64 97] ++ rest

set_option maxHeartbeats 8000000 in
theorem names_core (w : World) (hS : Sys w) (o : Nat → Obs) (t : Nat → Tb) (l : List Wd) (rest : List Value) (hE : Ex o t l rest) : Calls Tryz.prog 3 #[] w fun e w' => e = .returned (.bool true) ∧ Below w.heap.size w w' := by
  have HL := Lib.hid (lives_any w hS)
  have HS0 := Lib.hid hS
  have HE := Lib.hid hE
  clear hS hE
  go_enter Tryz.func3, Tryz.ntmps3
  go_wp2_with fail
  refine HL.out.mono ?_
  rintro e w1 ⟨rfl, hb1⟩
  have HB1 := Lib.hid hb1
  have HS := Lib.hid (HS0.out.below hb1)
  clear hb1
  go_wp2_with fail
  refine (HE.out.f w1 HS.out.tabs).mono ?_
  rintro e w2 ⟨tp, rfl, hN⟩
  have HN := Lib.hid hN
  clear hN
  go_wp2_with fail
  refine (HE.out.r1 _ _ tp _ HS.out HN.out).mono ?_
  rintro e u1 ⟨rfl, hn⟩
  have hn2 := hn.two 2 4 0 0
  clear HN hn
  have HN0 := Lib.hid hn2
  clear hn2
  go_wp2_with fail
  obtain ⟨v1, hv1⟩ : ∃ v, (u1.alloc (wob 2 4)).alloc (fob 0 0) = v := ⟨_, rfl⟩
  have hn2 := HN0.out
  rw [hv1] at hn2
  have HN := Lib.hid hn2
  rw [hv1]
  clear hn2 HN0 hv1
  have hc := (HN.out.car (2, 4)).at
  rw [HE.out.car] at hc
  refine hc.mono ?_
  clear hc
  rintro e u2 ⟨rfl, hb⟩
  have hn := (HN.out.later hb).word 1 2
  clear HN hb
  have HN0 := Lib.hid hn
  clear hn
  go_wp2_with fail
  obtain ⟨v2, hv2⟩ : ∃ v, u2.alloc (wob 1 2) = v := ⟨_, rfl⟩
  have hn := HN0.out
  rw [hv2] at hn
  have HN := Lib.hid hn
  rw [hv2]
  clear hn HN0 hv2
  refine (HE.out.r2 _ _ tp _ HS.out HN.out).mono ?_
  rintro e u0 ⟨g, cp, cur, rfl, hcur, hn⟩
  rw [HE.out.len] at hcur ⊢
  have hn2 := hn.fault 0 0
  clear HN hn
  have HN0 := Lib.hid hn2
  have HCu := Lib.hid hcur
  clear hn2 hcur
  go_wp2_with fail
  obtain ⟨v0, hv0⟩ : ∃ v, u0.alloc (fob 0 0) = v := ⟨_, rfl⟩
  have hn2 := HN0.out
  rw [hv0] at hn2
  have HN := Lib.hid hn2
  rw [hv0]
  clear hn2 HN0 hv0
  refine (HE.out.r3 _ _ tp _ HS.out HN.out).mono ?_
  rintro e u3 ⟨rfl, hn⟩
  have hn2 := hn.two 0 0 5 2
  clear HN hn
  have HN0 := Lib.hid hn2
  clear hn2
  go_wp2_with fail
  obtain ⟨v3, hv3⟩ : ∃ v, (u3.alloc (wob 0 0)).alloc (fob 5 2) = v := ⟨_, rfl⟩
  have hn2 := HN0.out
  rw [hv3] at hn2
  have HN := Lib.hid hn2
  rw [hv3]
  clear hn2 HN0 hv3
  refine (HE.out.r4 _ _ tp _ HS.out HN.out).mono ?_
  rintro e u4 ⟨rfl, hn⟩
  have hn2 := hn.two 0 0 5 0
  clear HN hn
  have HN0 := Lib.hid hn2
  clear hn2
  go_wp2_with fail
  obtain ⟨v4, hv4⟩ : ∃ v, (u4.alloc (wob 0 0)).alloc (fob 5 0) = v := ⟨_, rfl⟩
  have hn2 := HN0.out
  rw [hv4] at hn2
  have HN := Lib.hid hn2
  rw [hv4]
  clear hn2 HN0 hv4
  refine (HE.out.r5 _ _ tp _ HS.out HN.out).mono ?_
  rintro e u5 ⟨rfl, hn⟩
  have hn2 := hn.two 0 0 15 0
  clear HN hn
  have HN0 := Lib.hid hn2
  clear hn2
  go_wp2_with fail
  obtain ⟨v5, hv5⟩ : ∃ v, (u5.alloc (wob 0 0)).alloc (fob 15 0) = v := ⟨_, rfl⟩
  have hn2 := HN0.out
  rw [hv5] at hn2
  have HN := Lib.hid hn2
  rw [hv5]
  clear hn2 HN0 hv5
  refine (HE.out.r6 _ _ tp _ HS.out HN.out).mono ?_
  rintro e u6 ⟨rfl, hn⟩
  have hn2 := hn.two 0 (-2305843009213693952) 0 0
  clear HN hn
  have HN0 := Lib.hid hn2
  clear hn2
  go_wp2_with fail
  obtain ⟨v6, hv6⟩ : ∃ v, (u6.alloc (wob 0 (-2305843009213693952))).alloc (fob 0 0) = v := ⟨_, rfl⟩
  have hn2 := HN0.out
  rw [hv6] at hn2
  have HN := Lib.hid hn2
  rw [hv6]
  clear hn2 HN0 hv6
  refine (HE.out.r7 _ _ tp _ HS.out HN.out).mono ?_
  rintro e u7 ⟨rfl, hn⟩
  have hn2 := hn.two 0 0 13 4
  clear HN hn
  have HN0 := Lib.hid hn2
  clear hn2
  go_wp2_with fail
  obtain ⟨v7, hv7⟩ : ∃ v, (u7.alloc (wob 0 0)).alloc (fob 13 4) = v := ⟨_, rfl⟩
  have hn2 := HN0.out
  rw [hv7] at hn2
  have HN := Lib.hid hn2
  rw [hv7]
  clear hn2 HN0 hv7
  refine (HE.out.r8 _ _ tp _ HS.out HN.out).mono ?_
  rintro e u8 ⟨rfl, hn⟩
  have hn2 := hn.two 0 0 5 1
  clear HN hn
  have HN0 := Lib.hid hn2
  clear hn2
  go_wp2_with fail
  obtain ⟨v8, hv8⟩ : ∃ v, (u8.alloc (wob 0 0)).alloc (fob 5 1) = v := ⟨_, rfl⟩
  have hn2 := HN0.out
  rw [hv8] at hn2
  have HN := Lib.hid hn2
  rw [hv8]
  clear hn2 HN0 hv8
  refine (HE.out.r9 _ _ tp _ HS.out HN.out).mono ?_
  rintro e u9 ⟨rfl, hn⟩
  have hn2 := hn.two 0 0 5 7
  clear HN hn
  have HN0 := Lib.hid hn2
  clear hn2
  go_wp2_with fail
  obtain ⟨v9, hv9⟩ : ∃ v, (u9.alloc (wob 0 0)).alloc (fob 5 7) = v := ⟨_, rfl⟩
  have hn2 := HN0.out
  rw [hv9] at hn2
  have HN := Lib.hid hn2
  rw [hv9]
  clear hn2 HN0 hv9
  refine (HE.out.r10 _ _ tp _ HS.out HN.out).mono ?_
  rintro e u10 ⟨rfl, hn⟩
  have hn2 := hn.two 0 0 5 2
  clear HN hn
  have HN0 := Lib.hid hn2
  clear hn2
  go_wp2_with fail
  obtain ⟨v10, hv10⟩ : ∃ v, (u10.alloc (wob 0 0)).alloc (fob 5 2) = v := ⟨_, rfl⟩
  have hn2 := HN0.out
  rw [hv10] at hn2
  have HN := Lib.hid hn2
  rw [hv10]
  clear hn2 HN0 hv10
  refine (read_null tp _ 0 v10).mono ?_
  rintro e u11 ⟨rfl, hb⟩
  have hn2 := (HN.out.later hb).two 0 0 1 0
  clear HN hb
  have HN0 := Lib.hid hn2
  clear hn2
  go_wp2_with fail
  obtain ⟨v11, hv11⟩ : ∃ v, (u11.alloc (wob 0 0)).alloc (fob 1 0) = v := ⟨_, rfl⟩
  have hn2 := HN0.out
  rw [hv11] at hn2
  have HN := Lib.hid hn2
  rw [hv11]
  clear hn2 HN0 hv11
  have kfa := HN.out.cell (fbx (u1.heap.size + 1) 0 0) (by simp) 0 _ rfl
  have kfb := HN.out.cell (fbx (u1.heap.size + 1) 0 0) (by simp) 1 _ rfl
  have kqa := HN.out.cell (wbx u2.heap.size 1 2) (by simp) 0 _ rfl
  have kqb := HN.out.cell (wbx u2.heap.size 1 2) (by simp) 1 _ rfl
  have kga := HN.out.cell (fbx u0.heap.size 0 0) (by simp) 0 _ rfl
  have kgb := HN.out.cell (fbx u0.heap.size 0 0) (by simp) 1 _ rfl
  refine wp_region_grown v11 (Below.refl _ _) (by kernel_rfl) (by kernel_rfl) ?_
  repeat (go_big_quiet_step ((go_at_call 19; exact grown_call (fun w _ => sym_any _ w))))
  refine wpQuiet_nil ?_
  rintro _ ⟨y, rfl⟩
  have k3a := HN.out.cell (fbx (u3.heap.size + 1) 5 2) (by simp) 0 _ rfl
  have k3b := HN.out.cell (fbx (u3.heap.size + 1) 5 2) (by simp) 1 _ rfl
  have k4a := HN.out.cell (fbx (u4.heap.size + 1) 5 0) (by simp) 0 _ rfl
  have k4b := HN.out.cell (fbx (u4.heap.size + 1) 5 0) (by simp) 1 _ rfl
  have k5a := HN.out.cell (fbx (u5.heap.size + 1) 15 0) (by simp) 0 _ rfl
  have k5b := HN.out.cell (fbx (u5.heap.size + 1) 15 0) (by simp) 1 _ rfl
  have k6a := HN.out.cell (wbx u6.heap.size 0 (-2305843009213693952)) (by simp) 0 _ rfl
  have k6b := HN.out.cell (wbx u6.heap.size 0 (-2305843009213693952)) (by simp) 1 _ rfl
  have k7a := HN.out.cell (fbx (u7.heap.size + 1) 13 4) (by simp) 0 _ rfl
  have k7b := HN.out.cell (fbx (u7.heap.size + 1) 13 4) (by simp) 1 _ rfl
  have k8a := HN.out.cell (fbx (u8.heap.size + 1) 5 1) (by simp) 0 _ rfl
  have k8b := HN.out.cell (fbx (u8.heap.size + 1) 5 1) (by simp) 1 _ rfl
  have k9a := HN.out.cell (fbx (u9.heap.size + 1) 5 7) (by simp) 0 _ rfl
  have k9b := HN.out.cell (fbx (u9.heap.size + 1) 5 7) (by simp) 1 _ rfl
  have k10a := HN.out.cell (fbx (u10.heap.size + 1) 5 2) (by simp) 0 _ rfl
  have k10b := HN.out.cell (fbx (u10.heap.size + 1) 5 2) (by simp) 1 _ rfl
  have k11a := HN.out.cell (fbx (u11.heap.size + 1) 1 0) (by simp) 0 _ rfl
  have k11b := HN.out.cell (fbx (u11.heap.size + 1) 1 0) (by simp) 1 _ rfl
  have hcu := HCu.out
  rw [HE.out.cells] at hcu
  have l0 := HN.out.cell ⟨g, cur, 28⟩ (by simp) 0 _ (cur_at hcu (by decide))
  have l1 := HN.out.cell ⟨g, cur, 28⟩ (by simp) 1 _ (cur_at hcu (by decide))
  have l2 := HN.out.cell ⟨g, cur, 28⟩ (by simp) 2 _ (cur_at hcu (by decide))
  have l3 := HN.out.cell ⟨g, cur, 28⟩ (by simp) 3 _ (cur_at hcu (by decide))
  have l4 := HN.out.cell ⟨g, cur, 28⟩ (by simp) 4 _ (cur_at hcu (by decide))
  have l5 := HN.out.cell ⟨g, cur, 28⟩ (by simp) 5 _ (cur_at hcu (by decide))
  have l6 := HN.out.cell ⟨g, cur, 28⟩ (by simp) 6 _ (cur_at hcu (by decide))
  have l7 := HN.out.cell ⟨g, cur, 28⟩ (by simp) 7 _ (cur_at hcu (by decide))
  clear hcu
  go_wp2_with fail
  refine wp_region_grown v11 y.below (by kernel_rfl) (by kernel_rfl) ?_
  repeat (go_big_quiet_step (first
    | (go_at_call 20; exact grown_call (fun w _ => Kit.int_any _ w))
    | (go_at_call 21; first | exact grown_call (fun w _ => blank_at _ true (by decide) w) | exact grown_call (fun w _ => blank_at _ false (by decide) w))
    | (go_at_call 22; first | exact grown_call (fun w _ => delim_at _ true (by decide) w) | exact grown_call (fun w _ => delim_at _ false (by decide) w))))
  refine wpQuiet_nil ?_
  rintro _ ⟨z, rfl⟩
  go_wp2_with fail
  go_ret
  exact ⟨rfl, HB1.out.trans ((HN.out.below.trans ((Grown.below _).mono HN.out.below.size)).mono HB1.out.size)⟩

/-- The statement's walk. -/
theorem names_walk (w : World) (hS : Sys w) : Calls Tryz.prog 3 #[] w fun e w' => e = .returned (.bool true) ∧ Below w.heap.size w w' := by
  have htl := of_decide_eq_true tb_lens
  refine names_core w hS (fun | 0 => Quick.noObs | 1 => a1.ob | 2 => s2.ob | 3 => a3.ob | 4 => a4.ob | 5 => a5.ob | 6 => a6.ob | 7 => a7.ob | 8 => a8.ob | 9 => a9.ob | _ => a10.ob)
    (fun | 0 => t0 | 1 => a1.tb | 2 => s2.tb | 3 => a3.tb | 4 => a4.tb | 5 => a5.tb | 6 => a6.tb | 7 => a7.tb | 8 => a8.tb | 9 => a9.tb | _ => a10.tb) l2 (wcells (l2.drop 4)) ⟨FStep.of (by omega) (by omega), ?_, ?_, ?_, ?_, ?_, ?_, ?_, ?_, ?_, ?_, a1_car, congrArg Prod.fst l2_eq, ?_⟩
  · exact RStep.of (by rw [t0_length]; omega) (by decide) q1_valid (A := a1) rfl a1_ans (by decide)
  · exact AStep.of htl.1 (by decide) q2_valid (l := l2) (s := s2) (ok_eq r2_ok) (fun e => by have := congrArg Prod.fst l2_eq; rw [e] at this; cases this)
  · exact RStep.of htl.2.1 (by decide) q3_valid (A := a3) rfl a3_ans (by decide)
  · exact RStep.of htl.2.2.1 (by decide) q4_valid (A := a4) rfl a4_ans (by decide)
  · exact RStep.of htl.2.2.2.1 (by decide) q5_valid (A := a5) rfl a5_ans (by decide)
  · exact RStep.of htl.2.2.2.2.1 (by decide) q6_valid (A := a6) rfl a6_ans (by decide)
  · exact RStep.of htl.2.2.2.2.2.1 (by decide) q7_valid (A := a7) rfl a7_ans (by decide)
  · exact RStep.of htl.2.2.2.2.2.2.1 (by decide) q8_valid (A := a8) rfl a8_ans (by decide)
  · exact RStep.of htl.2.2.2.2.2.2.2.1 (by decide) q9_valid (A := a9) rfl a9_ans (by decide)
  · exact RStep.of htl.2.2.2.2.2.2.2.2 (by decide) q10_valid (A := a10) rfl a10_ans (by decide)
  · have h4 : l2.take 4 = [(0, 1), (0, 134217848), (0, 67108901), (0, 97)] := congrArg Prod.snd l2_eq
    have : wcells l2 = wcells (l2.take 4) ++ wcells (l2.drop 4) := by
      rw [← wcells_app, List.take_append_drop]
    rw [this, h4]
    rfl
end Go.Proofs.YtlibdhnlmekmhaaGreatDoor.Rd
end

/- Numerals as ReadInts writes them, and what Read answers. -/
section
namespace Go.Proofs.YtlibdhnlmekmhaaGreatDoor.Rd
open Go.RowKit Go.Lib
open Go.Proofs.YtlibdhnlmekmhaaGreatDoor.Hp Go.Proofs.YtlibdhnlmekmhaaGreatDoor.Add Go.Proofs.YtlibdhnlmekmhaaGreatDoor.Make Go.Proofs.YtlibdhnlmekmhaaGreatDoor.Utf Go.Proofs.YtlibdhnlmekmhaaGreatDoor.Strs
open Go.Proofs.YtlibdhnlmekmhaaGreatDoor.Nt hiding Wd

theorem tok_run : ∀ (D acc : List Int) (pl : Bool) (r : List Int), (∀ c ∈ D, delimB c = false ∧ c ≠ 92) → endsB r = true → tokF false acc pl (D ++ r) = some (acc ++ D, pl, r)
  | [], acc, pl, [], _, _ => by simp [tokF]
  | [], acc, pl, c :: r, _, hr => by
    have hr' : delimB c = true := hr
    simp [tokF, hr']
  | d :: D, acc, pl, r, h, hr => by
    obtain ⟨h1, h2⟩ := h d (by simp)
    rw [List.cons_append, tokF, if_neg (by simp [h1]), if_neg h2, tok_run D (acc ++ [d]) pl r (fun c hc => h c (List.mem_cons_of_mem _ hc)) hr]
    simp
theorem num_char {c : Int} (h : digitB c = true ∨ c = 43 ∨ c = 45) : 43 ≤ c ∧ c ≤ 57 ∧ c ≠ 44 ∧ c ≠ 46 := by
  rcases h with h | rfl | rfl
  · have := (digitB_iff c).1 h
    omega
  · omega
  · omega
theorem num_chars {D : List Int} (hd : (unsign D).all digitB = true) : ∀ c ∈ D, digitB c = true ∨ c = 43 ∨ c = 45 := by
  cases D with
  | nil => simp
  | cons a D =>
    have hd : (if a = 43 ∨ a = 45 then D else a :: D).all digitB = true := hd
    split at hd
    · rename_i ha
      intro c hc
      rcases List.mem_cons.1 hc with rfl | hc
      · exact .inr ha
      · exact .inl (List.all_eq_true.1 hd c hc)
    · intro c hc
      exact .inl (List.all_eq_true.1 hd c hc)
theorem form_num {lim k o : Nat} {D r : List Int} {ob : Obs} {tb : Tb} (hne : unsign D ≠ []) (hd : (unsign D).all digitB = true) (hr : endsB r = true) :
    formM lim (k + 1) o ⟨D ++ r, ob, tb⟩ = intG ⟨D ++ r, ob, tb⟩ D r := by
  have hch := num_chars hd
  cases D with
  | nil => simp [unsign] at hne
  | cons c D =>
    obtain ⟨h1, h2, h3, h4⟩ := num_char (hch c (by simp))
    have hb : blankB c = false := by simp [blankB]; omega
    have hsk : skipF false (c :: D ++ r) = c :: (D ++ r) := skipF_stop (by omega) hb
    have hall : ∀ x ∈ c :: D, delimB x = false ∧ x ≠ 92 := by
      intro x hx
      obtain ⟨g1, g2, g3, g4⟩ := num_char (hch x hx)
      refine ⟨?_, by omega⟩
      simp [delimB, blankB]
      omega
    have hn : numB (c :: D) = true := by
      unfold numB
      rw [hd, Bool.and_true]
      cases hu : unsign (c :: D) with
      | nil => exact (hne hu).elim
      | cons => rfl
    rw [formM_succ]
    unfold formG
    rw [hsk]
    show headG lim _ _ _ o c ⟨c :: (D ++ r), ob, tb⟩ = _
    unfold headG
    rw [if_neg (by omega), if_neg (by omega), if_neg (by omega), if_neg (by omega), if_neg (by omega), if_neg (by omega), if_neg (by omega), if_neg (by omega), if_neg (by omega)]
    unfold tokenG
    rw [show (⟨c :: (D ++ r), ob, tb⟩ : St).rest = (c :: D) ++ r from rfl, tok_run (c :: D) [] true r hall hr]
    have h46 : ¬ c :: D = [46] := by intro e; injection e with e1; omega
    simp only [List.nil_append, h46, and_false, if_false, hn, and_self, if_true]
    rfl
theorem read_num {lim : Nat} {D r : List Int} {ob : Obs} {tb : Tb} (hne : unsign D ≠ []) (hd : (unsign D).all digitB = true) (hr : endsB r = true) :
    readR lim (D ++ r) 0 ob tb = if -2305843009213693952 ≤ intV D ∧ intV D ≤ 2305843009213693951 then ⟨(0, intV D), D.length, 0, 0, ob, tb⟩ else ⟨(0, 0), 0, 15, 0, ob, tb⟩ := by
  have hch := num_chars hd
  have hsk : skipF false (D ++ r) = D ++ r := by
    cases D with
    | nil => simp [unsign] at hne
    | cons c D =>
      obtain ⟨h1, h2, h3, h4⟩ := num_char (hch c (by simp))
      exact skipF_stop (by omega) (by simp [blankB]; omega)
  have hD : D ++ r ≠ [] := by
    cases D with
    | nil => simp [unsign] at hne
    | cons => simp
  unfold readR
  rw [if_neg (by omega)]
  simp only [Int.toNat_zero, List.drop_zero, hsk]
  rw [if_neg hD, form_num hne hd hr]
  unfold intG
  split
  · simp only [ansF, List.length_append]
    congr 1
    omega
  · simp [ansF]

/-- Decimal digits. -/
def decZ (n : Nat) : List Int := if n < 10 then [48 + (n : Int)] else decZ (n / 10) ++ [48 + ((n % 10 : Nat) : Int)]
termination_by n
decreasing_by omega
theorem decZ_small {n : Nat} (h : n < 10) : decZ n = [48 + (n : Int)] := by rw [decZ, if_pos h]
theorem decZ_big {n : Nat} (h : ¬ n < 10) : decZ n = decZ (n / 10) ++ [48 + ((n % 10 : Nat) : Int)] := by rw [decZ, if_neg h]
theorem decZ_ok (n : Nat) : (decZ n).all digitB = true ∧ valF (decZ n) = n ∧ decZ n ≠ [] := by
  induction n using Nat.strongRecOn with
  | _ n ih =>
    by_cases h : n < 10
    · rw [decZ_small h]
      refine ⟨?_, ?_, by simp⟩
      · simp [digitB]
        omega
      · simp [valF]
        omega
    · obtain ⟨h1, h2, h3⟩ := ih (n / 10) (by omega)
      rw [decZ_big h]
      refine ⟨?_, ?_, by simp⟩
      · rw [List.all_append, h1]
        simp [digitB]
        omega
      · unfold valF at h2 ⊢
        rw [List.foldl_append, h2]
        simp only [List.foldl_cons, List.foldl_nil]
        omega
theorem decZ_len (n : Nat) : ∀ k : Nat, n < 10 ^ (k + 1) → (decZ n).length ≤ k + 1 := by
  induction n using Nat.strongRecOn with
  | _ n ih =>
    intro k hk
    by_cases h : n < 10
    · rw [decZ_small h]
      simp
    · rw [decZ_big h]
      cases k with
      | zero => omega
      | succ k =>
        have := ih (n / 10) (by omega) k (by rw [Nat.pow_succ] at hk; omega)
        simp only [List.length_append, List.length_singleton]
        omega
/-- A numeral with leading zeros. -/
def numZ (z n : Nat) : List Int := List.replicate z 48 ++ decZ n
theorem numZ_ok (z n : Nat) : (numZ z n).all digitB = true ∧ valF (numZ z n) = n ∧ numZ z n ≠ [] := by
  obtain ⟨h1, h2, h3⟩ := decZ_ok n
  have hz : ∀ z : Nat, (List.replicate z (48 : Int)).foldl (fun n c => 10 * n + (c - 48)) (0 : Int) = 0 := by
    intro z
    induction z with
    | zero => rfl
    | succ z ih => rw [List.replicate_succ, List.foldl_cons]; exact ih
  refine ⟨?_, ?_, by unfold numZ; simp [h3]⟩
  · unfold numZ
    rw [List.all_append, h1, Bool.and_true, List.all_eq_true]
    intro c hc
    rw [List.eq_of_mem_replicate hc]
    rfl
  · unfold numZ valF at *
    rw [List.foldl_append, hz, h2]
theorem numZ_un (z n : Nat) : unsign (numZ z n) = numZ z n := by
  obtain ⟨h1, h2, h3⟩ := numZ_ok z n
  cases hq : numZ z n with
  | nil => exact (h3 hq).elim
  | cons c r =>
    rw [hq] at h1
    have hc := (digitB_iff c).1 (List.all_eq_true.1 h1 c (by simp))
    show (if c = 43 ∨ c = 45 then r else c :: r) = c :: r
    rw [if_neg (by omega)]
theorem numZ_int (z n : Nat) : intV (numZ z n) = n ∧ intV (45 :: numZ z n) = -(n : Int) ∧ intV (43 :: numZ z n) = n := by
  obtain ⟨h1, h2, h3⟩ := numZ_ok z n
  refine ⟨?_, ?_, ?_⟩
  · unfold intV
    rw [numZ_un, h2, if_neg ?_]
    intro e
    cases hq : numZ z n with
    | nil => exact h3 hq
    | cons c r =>
      rw [hq] at h1 e
      have hc := (digitB_iff c).1 (List.all_eq_true.1 h1 c (by simp))
      simp at e
      omega
  · simp [intV, unsign, h2]
  · simp [intV, unsign, h2]
/-- What Read answers at the three texts of the statement. -/
def numA (v : Int) (len : Nat) : Ans := if -2305843009213693952 ≤ v ∧ v ≤ 2305843009213693951 then ⟨(0, v), len, 0, 0, Quick.noObs, t0⟩ else ⟨(0, 0), 0, 15, 0, Quick.noObs, t0⟩
theorem read_three (lim z n : Nat) :
    readR lim (numZ z n) 0 Quick.noObs t0 = numA n (numZ z n).length ∧ readR lim (45 :: numZ z n) 0 Quick.noObs t0 = numA (-(n : Int)) ((numZ z n).length + 1) ∧ readR lim (43 :: (numZ z n ++ [41])) 0 Quick.noObs t0 = numA n ((numZ z n).length + 1) := by
  obtain ⟨h1, h2, h3⟩ := numZ_ok z n
  obtain ⟨i1, i2, i3⟩ := numZ_int z n
  refine ⟨?_, ?_, ?_⟩
  · have := read_num (lim := lim) (D := numZ z n) (r := []) (ob := Quick.noObs) (tb := t0) (by rw [numZ_un]; exact h3) (by rw [numZ_un]; exact h1) rfl
    rw [List.append_nil, i1] at this
    exact this
  · have := read_num (lim := lim) (D := 45 :: numZ z n) (r := []) (ob := Quick.noObs) (tb := t0) (by simp [unsign, h3]) (by simpa [unsign] using h1) rfl
    rw [List.append_nil, i2, List.length_cons] at this
    exact this
  · have := read_num (lim := lim) (D := 43 :: numZ z n) (r := [41]) (ob := Quick.noObs) (tb := t0) (by simp [unsign, h3]) (by simpa [unsign] using h1) rfl
    rw [i3, List.length_cons] at this
    exact this
end Go.Proofs.YtlibdhnlmekmhaaGreatDoor.Rd
end
