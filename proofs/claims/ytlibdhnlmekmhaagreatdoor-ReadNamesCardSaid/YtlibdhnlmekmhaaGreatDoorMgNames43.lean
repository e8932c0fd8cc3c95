/- A heap, a table and boxes of the law's own, between calls of Read. | Calls of Read, All and fresh as steps between states of a heap and a table. | ReadNames: its walk over any states between the calls. -/
import Derived.Test.YtlibdhnlmekmhaaGreatDoorMgNames42
/- A heap, a table and boxes of the law's own, between calls of Read. -/
section
namespace Go.Proofs.YtlibdhnlmekmhaaGreatDoor.Rd
set_option maxRecDepth 100000
open Go.RowKit Go.Maps Go.Lib
open Go.Proofs.YtlibdhnlmekmhaaGreatDoor.Own Go.Proofs.YtlibdhnlmekmhaaGreatDoor.Hp Go.Proofs.YtlibdhnlmekmhaaGreatDoor.Rep Go.Proofs.YtlibdhnlmekmhaaGreatDoor.Get Go.Proofs.YtlibdhnlmekmhaaGreatDoor.Add Go.Proofs.YtlibdhnlmekmhaaGreatDoor.Make Go.Proofs.YtlibdhnlmekmhaaGreatDoor.Utf Go.Proofs.YtlibdhnlmekmhaaGreatDoor.Strs Go.Proofs.YtlibdhnlmekmhaaGreatDoor.Clone Go.Proofs.YtlibdhnlmekmhaaGreatDoor.Car Go.Proofs.YtlibdhnlmekmhaaGreatDoor.Kit
open Go.Proofs.YtlibdhnlmekmhaaGreatDoor.Nt hiding Wd

structure Bx where
  b : Nat
  cs : Array Value
  t : TypeId
/-- A heap and a table made since w, and boxes beside them. -/
structure NS (w wr : World) (lim tp : Nat) (ob : Obs) (tb : Tb) (bs : List Bx) : Prop where
  below : Below w.heap.size w wr
  st : ∃ F, HT wr w.heap.size w.heap.size lim tp ob tb F ∧ ∀ p ∈ bs, ¬ F p.b
  box : ∀ p ∈ bs, Blk wr p.b p.cs p.t
theorem NS.start {w wr : World} {lim tp : Nat} {ob : Obs} {tb : Tb} {F : Nat → Prop} (h : HT wr w.heap.size w.heap.size lim tp ob tb F) (hb : Below w.heap.size w wr) : NS w wr lim tp ob tb [] :=
  ⟨hb, ⟨F, h, by simp⟩, by simp⟩
theorem NS.later {w wr W : World} {lim tp : Nat} {ob : Obs} {tb : Tb} {bs : List Bx} (h : NS w wr lim tp ob tb bs) (hb : Below wr.heap.size wr W) : NS w W lim tp ob tb bs := by
  obtain ⟨F, h1, h2⟩ := h.st
  exact ⟨h.below.trans (hb.mono h.below.size), ⟨F, h1.below hb, h2⟩, fun p hp => (h.box p hp).below hb⟩
theorem NS.alloc {w wr : World} {lim tp : Nat} {ob : Obs} {tb : Tb} {bs : List Bx} (h : NS w wr lim tp ob tb bs) (cs : Array Value) (t : TypeId) : NS w (wr.alloc (.cells cs t)) lim tp ob tb (⟨wr.heap.size, cs, t⟩ :: bs) := by
  have h' := h.later (bel_box wr (.cells cs t))
  obtain ⟨F, h1, h2⟩ := h.st
  refine ⟨h'.below, ⟨F, h1.below (bel_box _ _), fun p hp => ?_⟩, fun p hp => ?_⟩
  · rcases List.mem_cons.1 hp with rfl | hp
    · exact h1.fresh (Nat.le_refl _)
    · exact h2 p hp
  · rcases List.mem_cons.1 hp with rfl | hp
    · exact Blk.new wr cs t
    · exact h'.box p hp
/-- A call that changes the heap and the table. -/
theorem NS.act {w wr w' : World} {lim tp : Nat} {ob ob' : Obs} {tb tb' : Tb} {bs : List Bx} {F : Nat → Prop} (h : NS w wr lim tp ob tb bs) (h1 : HT wr w.heap.size w.heap.size lim tp ob tb F) (h2 : ∀ p ∈ bs, ¬ F p.b) (hok : HTOk wr w' w.heap.size w.heap.size lim tp ob' tb' F) : NS w w' lim tp ob' tb' bs := by
  have hb := hok.bel (w0 := w) h1 h.below.size
  obtain ⟨F', h3, h4⟩ := hok
  refine ⟨h.below.trans hb, ⟨F', h3, fun p hp hF => ?_⟩, fun p hp => (h.box p hp).keeps h4.keeps (h2 p hp)⟩
  rcases h4.grow p.b hF with e | e
  · exact h2 p hp e
  · have := (h.box p hp).lt; omega
theorem NS.read {w wr : World} {lim tp : Nat} {ob : Obs} {tb : Tb} {bs : List Bx} (h : NS w wr lim tp ob tb bs) (hS : Sys w) (h1 : 0 < tb.syms.length) (u : ByteArray) (hu : u.size < 1000000) (hv : validD u.data.toList = true) (at_ : Int) {A : Ans} (hA : readR lim (runes u.data.toList) at_ ob tb = A)
    {x : Wd} {en c k : Int} (hans : (A.x, A.en, A.c, A.k) = (x, en, c, k)) (hnf : c ≠ 7) :
    Calls Tryz.prog 16 #[ptr w.heap.size, tptr tp, .string u, .int .i64 at_] wr fun e w' => e = .returned (.tuple #[wd x, .int .i64 en, .agg #[.int .i64 c, .int .i64 k]]) ∧ NS w w' lim tp A.ob A.tb bs := by
  obtain ⟨F, hH, h2⟩ := h.st
  simp only [Prod.mk.injEq] at hans
  obtain ⟨rfl, rfl, rfl, rfl⟩ := hans
  refine (read_any (w0 := w) hH h.below (Nat.le_refl _) hS h1 u hu hv at_ hA hnf).mono ?_
  rintro e w' ⟨rfl, hok⟩
  exact ⟨rfl, h.act hH h2 hok⟩
/-- All: the row of its words becomes a box. -/
theorem NS.all {w wr : World} {lim tp : Nat} {ob : Obs} {tb : Tb} {bs : List Bx} (h : NS w wr lim tp ob tb bs) (hS : Sys w) (h1 : 0 < tb.syms.length) (u : ByteArray) (hu : u.size < 1000000) (hv : validD u.data.toList = true) {l : List Wd} {s : St}
    (hR : allM lim (2 * (runes u.data.toList).length + 1) ((runes u.data.toList).length + 1) [] ⟨runes u.data.toList, ob, tb⟩ = .ok l s) (hl : l ≠ []) :
    Calls Tryz.prog 18 #[ptr w.heap.size, tptr tp, .string u] wr fun e w' => ∃ g c cur, e = .returned (.tuple #[.slice (some ⟨g, 0, none⟩) l.length c, .agg #[.int .i64 0, .int .i64 0]]) ∧ cur.toList.take (l.length * 2) = wcells l ∧ NS w w' lim tp s.ob s.tb (⟨g, cur, 28⟩ :: bs) := by
  obtain ⟨F, hH, h2⟩ := h.st
  refine (all_yes (w0 := w) hH h.below (Nat.le_refl _) hS h1 u hu hv rfl hR trivial).mono ?_
  rintro e w' ⟨A, c, rfl, hrow, F', h3, h4, hmi⟩
  rcases hrow.2 with ⟨_, h0⟩ | ⟨g, cap, cur, hv2, hg, hb, _, _, _, ht⟩
  · exact (hl (List.eq_nil_of_length_eq_zero h0)).elim
  · injection hv2 with e1 e2 e3
    subst e1 e3
    have hn := h.act hH h2 ⟨F', h3, h4⟩
    refine ⟨g, c, cur, rfl, ht, hn.below, ⟨F', h3, fun p hp => ?_⟩, fun p hp => ?_⟩
    · rcases List.mem_cons.1 hp with rfl | hp
      · exact hmi g rfl
      · intro hF
        rcases h4.grow p.b hF with e | e
        · exact h2 p hp e
        · have := (h.box p hp).lt; omega
    · rcases List.mem_cons.1 hp with rfl | hp
      · exact hb
      · exact hn.box p hp
end Go.Proofs.YtlibdhnlmekmhaaGreatDoor.Rd
end

/- Calls of Read, All and fresh as steps between states of a heap and a table. -/
section
namespace Go.Proofs.YtlibdhnlmekmhaaGreatDoor.Rd
set_option maxRecDepth 100000
open Go.RowKit Go.Maps Go.Lib
open Go.Proofs.YtlibdhnlmekmhaaGreatDoor.Own Go.Proofs.YtlibdhnlmekmhaaGreatDoor.Hp Go.Proofs.YtlibdhnlmekmhaaGreatDoor.Rep Go.Proofs.YtlibdhnlmekmhaaGreatDoor.Get Go.Proofs.YtlibdhnlmekmhaaGreatDoor.Add Go.Proofs.YtlibdhnlmekmhaaGreatDoor.Make Go.Proofs.YtlibdhnlmekmhaaGreatDoor.Utf Go.Proofs.YtlibdhnlmekmhaaGreatDoor.Strs Go.Proofs.YtlibdhnlmekmhaaGreatDoor.Clone Go.Proofs.YtlibdhnlmekmhaaGreatDoor.Car Go.Proofs.YtlibdhnlmekmhaaGreatDoor.Kit
open Go.Proofs.YtlibdhnlmekmhaaGreatDoor.Nt hiding Wd

theorem NS.car {w wr : World} {lim tp : Nat} {ob : Obs} {tb : Tb} {bs : List Bx} (h : NS w wr lim tp ob tb bs) (x : Wd) :
    Reads wr 17 #[ptr w.heap.size, wd x] (.tuple #[wd (carO ob x).1, .int .i64 (carO ob x).2]) := by
  obtain ⟨F, hH, _⟩ := h.st
  exact hH.car x
/-- A box of a word. -/
abbrev wbx (b : Nat) (x y : Int) : Bx := ⟨b, #[.int .i64 x, .int .i64 y], 28⟩
/-- A box of a fault. -/
abbrev fbx (b : Nat) (x y : Int) : Bx := ⟨b, #[.int .i64 x, .int .i64 y], 31⟩
abbrev wob (x y : Int) : Obj := .cells #[.int .i64 x, .int .i64 y] 28
abbrev fob (x y : Int) : Obj := .cells #[.int .i64 x, .int .i64 y] 31
theorem NS.word {w wr : World} {lim tp : Nat} {ob : Obs} {tb : Tb} {bs : List Bx} (h : NS w wr lim tp ob tb bs) (x y : Int) : NS w (wr.alloc (wob x y)) lim tp ob tb (wbx wr.heap.size x y :: bs) := h.alloc _ _
theorem NS.fault {w wr : World} {lim tp : Nat} {ob : Obs} {tb : Tb} {bs : List Bx} (h : NS w wr lim tp ob tb bs) (x y : Int) : NS w (wr.alloc (fob x y)) lim tp ob tb (fbx wr.heap.size x y :: bs) := h.alloc _ _
/-- Behind a Read: its two boxes. -/
theorem NS.two {w wr : World} {lim tp : Nat} {ob : Obs} {tb : Tb} {bs : List Bx} (h : NS w wr lim tp ob tb bs) (x y c k : Int) :
    NS w ((wr.alloc (wob x y)).alloc (fob c k)) lim tp ob tb (fbx (wr.heap.size + 1) c k :: wbx wr.heap.size x y :: bs) := by
  have := (h.word x y).fault c k
  rwa [World.size_alloc] at this

def FStep (lim : Nat) (ob : Obs) (tb : Tb) : Prop :=
  ∀ w : World, Tabs w → Calls Tryz.prog 15 #[.int .i64 (lim : Int)] w fun e w' => ∃ tp, e = .returned (.tuple #[ptr w.heap.size, tptr tp]) ∧ NS w w' lim tp ob tb []
theorem FStep.of {lim : Nat} (h1 : 1 ≤ lim) (h2 : lim ≤ 65536) : FStep lim Quick.noObs t0 := by
  intro w hT
  refine (fresh_any lim h1 h2 w hT).mono ?_
  rintro e w' ⟨tp, F, rfl, hH, hb⟩
  exact ⟨tp, rfl, NS.start hH hb⟩
def RStep (lim : Nat) (u : ByteArray) (at_ : Int) (ob : Obs) (tb : Tb) (x : Wd) (en c k : Int) (ob' : Obs) (tb' : Tb) : Prop :=
  ∀ (w wr : World) (tp : Nat) (bs : List Bx), Sys w → NS w wr lim tp ob tb bs →
    Calls Tryz.prog 16 #[ptr w.heap.size, tptr tp, .string u, .int .i64 at_] wr fun e w' => e = .returned (.tuple #[wd x, .int .i64 en, .agg #[.int .i64 c, .int .i64 k]]) ∧ NS w w' lim tp ob' tb' bs
theorem RStep.of {lim : Nat} {u : ByteArray} {at_ : Int} {ob : Obs} {tb : Tb} (h1 : 0 < tb.syms.length) (hu : u.size < 1000000) (hv : validD u.data.toList = true) {A : Ans} (hA : readR lim (runes u.data.toList) at_ ob tb = A)
    {x : Wd} {en c k : Int} (hans : (A.x, A.en, A.c, A.k) = (x, en, c, k)) (hnf : c ≠ 7) : RStep lim u at_ ob tb x en c k A.ob A.tb :=
  fun _ _ _ _ hS h => h.read hS h1 u hu hv at_ hA hans hnf
def AStep (lim : Nat) (u : ByteArray) (ob : Obs) (tb : Tb) (l : List Wd) (ob' : Obs) (tb' : Tb) : Prop :=
  ∀ (w wr : World) (tp : Nat) (bs : List Bx), Sys w → NS w wr lim tp ob tb bs →
    Calls Tryz.prog 18 #[ptr w.heap.size, tptr tp, .string u] wr fun e w' => ∃ g c cur, e = .returned (.tuple #[.slice (some ⟨g, 0, none⟩) l.length c, .agg #[.int .i64 0, .int .i64 0]]) ∧ cur.toList.take (l.length * 2) = wcells l ∧ NS w w' lim tp ob' tb' (⟨g, cur, 28⟩ :: bs)
theorem AStep.of {lim : Nat} {u : ByteArray} {ob : Obs} {tb : Tb} (h1 : 0 < tb.syms.length) (hu : u.size < 1000000) (hv : validD u.data.toList = true) {l : List Wd} {s : St}
    (hR : allM lim (2 * (runes u.data.toList).length + 1) ((runes u.data.toList).length + 1) [] ⟨runes u.data.toList, ob, tb⟩ = .ok l s) (hl : l ≠ []) : AStep lim u ob tb l s.ob s.tb :=
  fun _ _ _ _ hS h => h.all hS h1 u hu hv hR hl
/-- A fact of a box's cell. -/
theorem NS.cell {w wr : World} {lim tp : Nat} {ob : Obs} {tb : Tb} {bs : List Bx} (h : NS w wr lim tp ob tb bs) (p : Bx) (hp : p ∈ bs) (i : Nat) (v : Value) (hv : p.cs[i]? = some v) : ∀ y : Grown wr, y.w.cell? ⟨p.b, i, none⟩ = some v :=
  fun y => ((h.box p hp).below y.below).cell i v hv
end Go.Proofs.YtlibdhnlmekmhaaGreatDoor.Rd
end

/- ReadNames: its walk over any states between the calls. -/
section
namespace Go.Proofs.YtlibdhnlmekmhaaGreatDoor.Rd
set_option maxRecDepth 100000
open Go.RowKit Go.Maps Go.Lib
open Go.Proofs.YtlibdhnlmekmhaaGreatDoor.Own Go.Proofs.YtlibdhnlmekmhaaGreatDoor.Hp Go.Proofs.YtlibdhnlmekmhaaGreatDoor.Rep Go.Proofs.YtlibdhnlmekmhaaGreatDoor.Get Go.Proofs.YtlibdhnlmekmhaaGreatDoor.Add Go.Proofs.YtlibdhnlmekmhaaGreatDoor.Make Go.Proofs.YtlibdhnlmekmhaaGreatDoor.Utf Go.Proofs.YtlibdhnlmekmhaaGreatDoor.Strs Go.Proofs.YtlibdhnlmekmhaaGreatDoor.Clone Go.Proofs.YtlibdhnlmekmhaaGreatDoor.Car Go.Proofs.YtlibdhnlmekmhaaGreatDoor.Kit
open Go.Proofs.YtlibdhnlmekmhaaGreatDoor.Nt hiding Wd

theorem cur_at {cur : Array Value} {n : Nat} {L : List Value} (h : cur.toList.take n = L) {i : Nat} (hi : i < n) {v : Value} (hv : L[i]? = some v := by rfl) : cur[i]? = some v := by
  rw [← h, List.getElem?_take, if_pos hi] at hv
  rw [← Array.getElem?_toList]
  exact hv
theorem blank_at (c : Int) (b : Bool) (h : blankB c = b) (w : World) : Calls Tryz.prog 21 #[.int .i64 c] w fun e w' => e = .returned (.bool b) ∧ Below w.heap.size w w' := (blank_any c w).mono (by rintro e w' ⟨rfl, rfl⟩; exact ⟨by rw [h], Below.refl _ _⟩)
theorem delim_at (c : Int) (b : Bool) (h : delimB c = b) (w : World) : Calls Tryz.prog 22 #[.int .i64 c] w fun e w' => e = .returned (.bool b) ∧ Below w.heap.size w w' := (delim_any c w).mono (by rintro e w' ⟨rfl, rfl⟩; exact ⟨by rw [h], Below.refl _ _⟩)
/-- What the calls of the statement give, from state to state. -/
structure Ex (o : Nat → Obs) (t : Nat → Tb) (l : List Wd) (rest : List Value) : Prop where
  f : FStep 40 (o 0) (t 0)
  r1 : RStep 40 ⟨#[39, 40, 49, 32, 34, 120, 34, 41, 32, 59, 32, 99]⟩ 0 (o 0) (t 0) (2, 4) 8 0 0 (o 1) (t 1)
  r2 : AStep 40 ⟨#[63, 92, 67, 45, 97, 32, 63, 92, 77, 45, 120, 32, 63, 92, 67, 45, 37, 32, 63, 97, 32, 35, 35, 32, 35, 39, 99, 97, 114, 32, 91, 49, 32, 50, 93]⟩ (o 1) (t 1) l (o 2) (t 2)
  r3 : RStep 40 ⟨#[40, 97]⟩ 0 (o 2) (t 2) (0, 0) 0 5 2 (o 3) (t 3)
  r4 : RStep 40 ⟨#[41]⟩ 0 (o 3) (t 3) (0, 0) 0 5 0 (o 4) (t 4)
  r5 : RStep 40 ⟨#[50, 51, 48, 53, 56, 52, 51, 48, 48, 57, 50, 49, 51, 54, 57, 51, 57, 53, 50]⟩ 0 (o 4) (t 4) (0, 0) 0 15 0 (o 5) (t 5)
  r6 : RStep 40 ⟨#[45, 50, 51, 48, 53, 56, 52, 51, 48, 48, 57, 50, 49, 51, 54, 57, 51, 57, 53, 50]⟩ 0 (o 5) (t 5) (0, (-2305843009213693952)) 20 0 0 (o 6) (t 6)
  r7 : RStep 40 ⟨#[32, 59, 32, 120]⟩ 0 (o 6) (t 6) (0, 0) 0 13 4 (o 7) (t 7)
  r8 : RStep 40 ⟨#[40, 46, 32, 97, 41]⟩ 0 (o 7) (t 7) (0, 0) 0 5 1 (o 8) (t 8)
  r9 : RStep 40 ⟨#[40, 97, 32, 46, 32, 98, 32, 99, 41]⟩ 0 (o 8) (t 8) (0, 0) 0 5 7 (o 9) (t 9)
  r10 : RStep 40 ⟨#[34, 97, 92, 113, 34]⟩ 0 (o 9) (t 9) (0, 0) 0 5 2 (o 10) (t 10)
  car : carO (o 1) (2, 4) = ((1, 2), 0)
  len : l.length = 7
  cells : wcells l = [.int .i64 0, .int .i64 1, .int .i64 0, .int .i64 134217848, .int .i64 0, .int .i64 67108901, .int .i64 0, .int .i64 97] ++ rest

set_option maxHeartbeats 8000000 in
theorem names_core (w : World) (hS : Sys w) (o : Nat → Obs) (t : Nat → Tb) (l : List Wd) (rest : List Value) (hE : Ex o t l rest) : Calls Tryz.prog 3 #[] w fun e w' => e = .returned (.bool true) ∧ Below w.heap.size w w' := by
  have HL := Lib.hid (lives_any w hS)
  have HS0 := Lib.hid hS
  have HE := Lib.hid hE
  clear hS hE
  go_enter Tryz.func3, Tryz.ntmps3
  go_wp2_with fail
  refine HL.out.mono ?_
  rintro e w1 ⟨rfl, hb1⟩
  have HB1 := Lib.hid hb1
  have HS := Lib.hid (HS0.out.below hb1)
  clear hb1
  go_wp2_with fail
  refine (HE.out.f w1 HS.out.tabs).mono ?_
  rintro e w2 ⟨tp, rfl, hN⟩
  have HN := Lib.hid hN
  clear hN
  go_wp2_with fail
  refine (HE.out.r1 _ _ tp _ HS.out HN.out).mono ?_
  rintro e u1 ⟨rfl, hn⟩
  have hn2 := hn.two 2 4 0 0
  clear HN hn
  have HN0 := Lib.hid hn2
  clear hn2
  go_wp2_with fail
  obtain ⟨v1, hv1⟩ : ∃ v, (u1.alloc (wob 2 4)).alloc (fob 0 0) = v := ⟨_, rfl⟩
  have hn2 := HN0.out
  rw [hv1] at hn2
  have HN := Lib.hid hn2
  rw [hv1]
  clear hn2 HN0 hv1
  have hc := (HN.out.car (2, 4)).at
  rw [HE.out.car] at hc
  refine hc.mono ?_
  clear hc
  rintro e u2 ⟨rfl, hb⟩
  have hn := (HN.out.later hb).word 1 2
  clear HN hb
  have HN0 := Lib.hid hn
  clear hn
  go_wp2_with fail
  obtain ⟨v2, hv2⟩ : ∃ v, u2.alloc (wob 1 2) = v := ⟨_, rfl⟩
  have hn := HN0.out
  rw [hv2] at hn
  have HN := Lib.hid hn
  rw [hv2]
  clear hn HN0 hv2
  refine (HE.out.r2 _ _ tp _ HS.out HN.out).mono ?_
  rintro e u0 ⟨g, cp, cur, rfl, hcur, hn⟩
  rw [HE.out.len] at hcur ⊢
  have hn2 := hn.fault 0 0
  clear HN hn
  have HN0 := Lib.hid hn2
  have HCu := Lib.hid hcur
  clear hn2 hcur
  go_wp2_with fail
  obtain ⟨v0, hv0⟩ : ∃ v, u0.alloc (fob 0 0) = v := ⟨_, rfl⟩
  have hn2 := HN0.out
  rw [hv0] at hn2
  have HN := Lib.hid hn2
  rw [hv0]
  clear hn2 HN0 hv0
  refine (HE.out.r3 _ _ tp _ HS.out HN.out).mono ?_
  rintro e u3 ⟨rfl, hn⟩
  have hn2 := hn.two 0 0 5 2
  clear HN hn
  have HN0 := Lib.hid hn2
  clear hn2
  go_wp2_with fail
  obtain ⟨v3, hv3⟩ : ∃ v, (u3.alloc (wob 0 0)).alloc (fob 5 2) = v := ⟨_, rfl⟩
  have hn2 := HN0.out
  rw [hv3] at hn2
  have HN := Lib.hid hn2
  rw [hv3]
  clear hn2 HN0 hv3
  refine (HE.out.r4 _ _ tp _ HS.out HN.out).mono ?_
  rintro e u4 ⟨rfl, hn⟩
  have hn2 := hn.two 0 0 5 0
  clear HN hn
  have HN0 := Lib.hid hn2
  clear hn2
  go_wp2_with fail
  obtain ⟨v4, hv4⟩ : ∃ v, (u4.alloc (wob 0 0)).alloc (fob 5 0) = v := ⟨_, rfl⟩
  have hn2 := HN0.out
  rw [hv4] at hn2
  have HN := Lib.hid hn2
  rw [hv4]
  clear hn2 HN0 hv4
  refine (HE.out.r5 _ _ tp _ HS.out HN.out).mono ?_
  rintro e u5 ⟨rfl, hn⟩
  have hn2 := hn.two 0 0 15 0
  clear HN hn
  have HN0 := Lib.hid hn2
  clear hn2
  go_wp2_with fail
  obtain ⟨v5, hv5⟩ : ∃ v, (u5.alloc (wob 0 0)).alloc (fob 15 0) = v := ⟨_, rfl⟩
  have hn2 := HN0.out
  rw [hv5] at hn2
  have HN := Lib.hid hn2
  rw [hv5]
  clear hn2 HN0 hv5
  refine (HE.out.r6 _ _ tp _ HS.out HN.out).mono ?_
  rintro e u6 ⟨rfl, hn⟩
  have hn2 := hn.two 0 (-2305843009213693952) 0 0
  clear HN hn
  have HN0 := Lib.hid hn2
  clear hn2
  go_wp2_with fail
  obtain ⟨v6, hv6⟩ : ∃ v, (u6.alloc (wob 0 (-2305843009213693952))).alloc (fob 0 0) = v := ⟨_, rfl⟩
  have hn2 := HN0.out
  rw [hv6] at hn2
  have HN := Lib.hid hn2
  rw [hv6]
  clear hn2 HN0 hv6
  refine (HE.out.r7 _ _ tp _ HS.out HN.out).mono ?_
  rintro e u7 ⟨rfl, hn⟩
  have hn2 := hn.two 0 0 13 4
  clear HN hn
  have HN0 := Lib.hid hn2
  clear hn2
  go_wp2_with fail
  obtain ⟨v7, hv7⟩ : ∃ v, (u7.alloc (wob 0 0)).alloc (fob 13 4) = v := ⟨_, rfl⟩
  have hn2 := HN0.out
  rw [hv7] at hn2
  have HN := Lib.hid hn2
  rw [hv7]
  clear hn2 HN0 hv7
  refine (HE.out.r8 _ _ tp _ HS.out HN.out).mono ?_
  rintro e u8 ⟨rfl, hn⟩
  have hn2 := hn.two 0 0 5 1
  clear HN hn
  have HN0 := Lib.hid hn2
  clear hn2
  go_wp2_with fail
  obtain ⟨v8, hv8⟩ : ∃ v, (u8.alloc (wob 0 0)).alloc (fob 5 1) = v := ⟨_, rfl⟩
  have hn2 := HN0.out
  rw [hv8] at hn2
  have HN := Lib.hid hn2
  rw [hv8]
  clear hn2 HN0 hv8
  refine (HE.out.r9 _ _ tp _ HS.out HN.out).mono ?_
  rintro e u9 ⟨rfl, hn⟩
  have hn2 := hn.two 0 0 5 7
  clear HN hn
  have HN0 := Lib.hid hn2
  clear hn2
  go_wp2_with fail
  obtain ⟨v9, hv9⟩ : ∃ v, (u9.alloc (wob 0 0)).alloc (fob 5 7) = v := ⟨_, rfl⟩
  have hn2 := HN0.out
  rw [hv9] at hn2
  have HN := Lib.hid hn2
  rw [hv9]
  clear hn2 HN0 hv9
  refine (HE.out.r10 _ _ tp _ HS.out HN.out).mono ?_
  rintro e u10 ⟨rfl, hn⟩
  have hn2 := hn.two 0 0 5 2
  clear HN hn
  have HN0 := Lib.hid hn2
  clear hn2
  go_wp2_with fail
  obtain ⟨v10, hv10⟩ : ∃ v, (u10.alloc (wob 0 0)).alloc (fob 5 2) = v := ⟨_, rfl⟩
  have hn2 := HN0.out
  rw [hv10] at hn2
  have HN := Lib.hid hn2
  rw [hv10]
  clear hn2 HN0 hv10
  refine (read_null tp _ 0 v10).mono ?_
  rintro e u11 ⟨rfl, hb⟩
  have hn2 := (HN.out.later hb).two 0 0 1 0
  clear HN hb
  have HN0 := Lib.hid hn2
  clear hn2
  go_wp2_with fail
  obtain ⟨v11, hv11⟩ : ∃ v, (u11.alloc (wob 0 0)).alloc (fob 1 0) = v := ⟨_, rfl⟩
  have hn2 := HN0.out
  rw [hv11] at hn2
  have HN := Lib.hid hn2
  rw [hv11]
  clear hn2 HN0 hv11
  have kfa := HN.out.cell (fbx (u1.heap.size + 1) 0 0) (by simp) 0 _ rfl
  have kfb := HN.out.cell (fbx (u1.heap.size + 1) 0 0) (by simp) 1 _ rfl
  have kqa := HN.out.cell (wbx u2.heap.size 1 2) (by simp) 0 _ rfl
  have kqb := HN.out.cell (wbx u2.heap.size 1 2) (by simp) 1 _ rfl
  have kga := HN.out.cell (fbx u0.heap.size 0 0) (by simp) 0 _ rfl
  have kgb := HN.out.cell (fbx u0.heap.size 0 0) (by simp) 1 _ rfl
  refine wp_region_grown v11 (Below.refl _ _) (by kernel_rfl) (by kernel_rfl) ?_
  repeat (go_big_quiet_step ((go_at_call 19; exact grown_call (fun w _ => sym_any _ w))))
  refine wpQuiet_nil ?_
  rintro _ ⟨y, rfl⟩
  have k3a := HN.out.cell (fbx (u3.heap.size + 1) 5 2) (by simp) 0 _ rfl
  have k3b := HN.out.cell (fbx (u3.heap.size + 1) 5 2) (by simp) 1 _ rfl
  have k4a := HN.out.cell (fbx (u4.heap.size + 1) 5 0) (by simp) 0 _ rfl
  have k4b := HN.out.cell (fbx (u4.heap.size + 1) 5 0) (by simp) 1 _ rfl
  have k5a := HN.out.cell (fbx (u5.heap.size + 1) 15 0) (by simp) 0 _ rfl
  have k5b := HN.out.cell (fbx (u5.heap.size + 1) 15 0) (by simp) 1 _ rfl
  have k6a := HN.out.cell (wbx u6.heap.size 0 (-2305843009213693952)) (by simp) 0 _ rfl
  have k6b := HN.out.cell (wbx u6.heap.size 0 (-2305843009213693952)) (by simp) 1 _ rfl
  have k7a := HN.out.cell (fbx (u7.heap.size + 1) 13 4) (by simp) 0 _ rfl
  have k7b := HN.out.cell (fbx (u7.heap.size + 1) 13 4) (by simp) 1 _ rfl
  have k8a := HN.out.cell (fbx (u8.heap.size + 1) 5 1) (by simp) 0 _ rfl
  have k8b := HN.out.cell (fbx (u8.heap.size + 1) 5 1) (by simp) 1 _ rfl
  have k9a := HN.out.cell (fbx (u9.heap.size + 1) 5 7) (by simp) 0 _ rfl
  have k9b := HN.out.cell (fbx (u9.heap.size + 1) 5 7) (by simp) 1 _ rfl
  have k10a := HN.out.cell (fbx (u10.heap.size + 1) 5 2) (by simp) 0 _ rfl
  have k10b := HN.out.cell (fbx (u10.heap.size + 1) 5 2) (by simp) 1 _ rfl
  have k11a := HN.out.cell (fbx (u11.heap.size + 1) 1 0) (by simp) 0 _ rfl
  have k11b := HN.out.cell (fbx (u11.heap.size + 1) 1 0) (by simp) 1 _ rfl
  have hcu := HCu.out
  rw [HE.out.cells] at hcu
  have l0 := HN.out.cell ⟨g, cur, 28⟩ (by simp) 0 _ (cur_at hcu (by decide))
  have l1 := HN.out.cell ⟨g, cur, 28⟩ (by simp) 1 _ (cur_at hcu (by decide))
  have l2 := HN.out.cell ⟨g, cur, 28⟩ (by simp) 2 _ (cur_at hcu (by decide))
  have l3 := HN.out.cell ⟨g, cur, 28⟩ (by simp) 3 _ (cur_at hcu (by decide))
  have l4 := HN.out.cell ⟨g, cur, 28⟩ (by simp) 4 _ (cur_at hcu (by decide))
  have l5 := HN.out.cell ⟨g, cur, 28⟩ (by simp) 5 _ (cur_at hcu (by decide))
  have l6 := HN.out.cell ⟨g, cur, 28⟩ (by simp) 6 _ (cur_at hcu (by decide))
  have l7 := HN.out.cell ⟨g, cur, 28⟩ (by simp) 7 _ (cur_at hcu (by decide))
  clear hcu
  go_wp2_with fail
  refine wp_region_grown v11 y.below (by kernel_rfl) (by kernel_rfl) ?_
  repeat (go_big_quiet_step (first
    | (go_at_call 20; exact grown_call (fun w _ => Kit.int_any _ w))
    | (go_at_call 21; first | exact grown_call (fun w _ => blank_at _ true (by decide) w) | exact grown_call (fun w _ => blank_at _ false (by decide) w))
    | (go_at_call 22; first | exact grown_call (fun w _ => delim_at _ true (by decide) w) | exact grown_call (fun w _ => delim_at _ false (by decide) w))))
  refine wpQuiet_nil ?_
  rintro _ ⟨z, rfl⟩
  go_wp2_with fail
  go_ret
  exact ⟨rfl, HB1.out.trans ((HN.out.below.trans ((Grown.below _).mono HN.out.below.size)).mono HB1.out.size)⟩

/-- The statement's walk. -/
theorem names_walk (w : World) (hS : Sys w) : Calls Tryz.prog 3 #[] w fun e w' => e = .returned (.bool true) ∧ Below w.heap.size w w' := by
  have htl := of_decide_eq_true tb_lens
  refine names_core w hS (fun | 0 => Quick.noObs | 1 => a1.ob | 2 => s2.ob | 3 => a3.ob | 4 => a4.ob | 5 => a5.ob | 6 => a6.ob | 7 => a7.ob | 8 => a8.ob | 9 => a9.ob | _ => a10.ob)
    (fun | 0 => t0 | 1 => a1.tb | 2 => s2.tb | 3 => a3.tb | 4 => a4.tb | 5 => a5.tb | 6 => a6.tb | 7 => a7.tb | 8 => a8.tb | 9 => a9.tb | _ => a10.tb) l2 (wcells (l2.drop 4)) ⟨FStep.of (by omega) (by omega), ?_, ?_, ?_, ?_, ?_, ?_, ?_, ?_, ?_, ?_, a1_car, congrArg Prod.fst l2_eq, ?_⟩
  · exact RStep.of (by rw [t0_length]; omega) (by decide) q1_valid (A := a1) rfl a1_ans (by decide)
  · exact AStep.of htl.1 (by decide) q2_valid (l := l2) (s := s2) (ok_eq r2_ok) (fun e => by have := congrArg Prod.fst l2_eq; rw [e] at this; cases this)
  · exact RStep.of htl.2.1 (by decide) q3_valid (A := a3) rfl a3_ans (by decide)
  · exact RStep.of htl.2.2.1 (by decide) q4_valid (A := a4) rfl a4_ans (by decide)
  · exact RStep.of htl.2.2.2.1 (by decide) q5_valid (A := a5) rfl a5_ans (by decide)
  · exact RStep.of htl.2.2.2.2.1 (by decide) q6_valid (A := a6) rfl a6_ans (by decide)
  · exact RStep.of htl.2.2.2.2.2.1 (by decide) q7_valid (A := a7) rfl a7_ans (by decide)
  · exact RStep.of htl.2.2.2.2.2.2.1 (by decide) q8_valid (A := a8) rfl a8_ans (by decide)
  · exact RStep.of htl.2.2.2.2.2.2.2.1 (by decide) q9_valid (A := a9) rfl a9_ans (by decide)
  · exact RStep.of htl.2.2.2.2.2.2.2.2 (by decide) q10_valid (A := a10) rfl a10_ans (by decide)
  · have h4 : l2.take 4 = [(0, 1), (0, 134217848), (0, 67108901), (0, 97)] := congrArg Prod.snd l2_eq
    have : wcells l2 = wcells (l2.take 4) ++ wcells (l2.drop 4) := by
      rw [← wcells_app, List.take_append_drop]
    rw [this, h4]
    rfl
end Go.Proofs.YtlibdhnlmekmhaaGreatDoor.Rd
end
