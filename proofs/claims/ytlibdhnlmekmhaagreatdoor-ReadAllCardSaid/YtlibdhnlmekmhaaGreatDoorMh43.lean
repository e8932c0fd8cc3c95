/- A heap, a table and boxes of the law's own, between calls of Read. | Calls of Read, All and fresh as steps between states of a heap and a table. | The contracts of define, SetFunc, ClearFunc and Func. | The contracts of the statements' small functions: Int, Sym, Nil, Pick, Times; the reference's list of fixed names. | ReadInts: what its calls give. -/
import Derived.LoopTactic
import Derived.IntWalk
import Derived.Test.YtlibdhnlmekmhaaGreatDoorMh16
import Derived.Test.YtlibdhnlmekmhaaGreatDoorMh37
import Derived.Test.YtlibdhnlmekmhaaGreatDoorMh42
/- A heap, a table and boxes of the law's own, between calls of Read. -/
section
namespace Go.Proofs.YtlibdhnlmekmhaaGreatDoor.Rd
set_option maxRecDepth 100000
open Go.RowKit Go.Maps Go.Lib
open Go.Proofs.YtlibdhnlmekmhaaGreatDoor.Own Go.Proofs.YtlibdhnlmekmhaaGreatDoor.Hp Go.Proofs.YtlibdhnlmekmhaaGreatDoor.Rep Go.Proofs.YtlibdhnlmekmhaaGreatDoor.Get Go.Proofs.YtlibdhnlmekmhaaGreatDoor.Add Go.Proofs.YtlibdhnlmekmhaaGreatDoor.Make Go.Proofs.YtlibdhnlmekmhaaGreatDoor.Utf Go.Proofs.YtlibdhnlmekmhaaGreatDoor.Strs Go.Proofs.YtlibdhnlmekmhaaGreatDoor.Clone Go.Proofs.YtlibdhnlmekmhaaGreatDoor.Car Go.Proofs.YtlibdhnlmekmhaaGreatDoor.Kit
open Go.Proofs.YtlibdhnlmekmhaaGreatDoor.Nt hiding Wd

structure Bx where
  b : Nat
  cs : Array Value
  t : TypeId
/-- A heap and a table made since w, and boxes beside them. -/
structure NS (w wr : World) (lim tp : Nat) (ob : Obs) (tb : Tb) (bs : List Bx) : Prop where
  below : Below w.heap.size w wr
  st : ∃ F, HT wr w.heap.size w.heap.size lim tp ob tb F ∧ ∀ p ∈ bs, ¬ F p.b
  box : ∀ p ∈ bs, Blk wr p.b p.cs p.t
theorem NS.start {w wr : World} {lim tp : Nat} {ob : Obs} {tb : Tb} {F : Nat → Prop} (h : HT wr w.heap.size w.heap.size lim tp ob tb F) (hb : Below w.heap.size w wr) : NS w wr lim tp ob tb [] :=
  ⟨hb, ⟨F, h, by simp⟩, by simp⟩
theorem NS.later {w wr W : World} {lim tp : Nat} {ob : Obs} {tb : Tb} {bs : List Bx} (h : NS w wr lim tp ob tb bs) (hb : Below wr.heap.size wr W) : NS w W lim tp ob tb bs := by
  obtain ⟨F, h1, h2⟩ := h.st
  exact ⟨h.below.trans (hb.mono h.below.size), ⟨F, h1.below hb, h2⟩, fun p hp => (h.box p hp).below hb⟩
theorem NS.alloc {w wr : World} {lim tp : Nat} {ob : Obs} {tb : Tb} {bs : List Bx} (h : NS w wr lim tp ob tb bs) (cs : Array Value) (t : TypeId) : NS w (wr.alloc (.cells cs t)) lim tp ob tb (⟨wr.heap.size, cs, t⟩ :: bs) := by
  have h' := h.later (bel_box wr (.cells cs t))
  obtain ⟨F, h1, h2⟩ := h.st
  refine ⟨h'.below, ⟨F, h1.below (bel_box _ _), fun p hp => ?_⟩, fun p hp => ?_⟩
  · rcases List.mem_cons.1 hp with rfl | hp
    · exact h1.fresh (Nat.le_refl _)
    · exact h2 p hp
  · rcases List.mem_cons.1 hp with rfl | hp
    · exact Blk.new wr cs t
    · exact h'.box p hp
/-- A call that changes the heap and the table. -/
theorem NS.act {w wr w' : World} {lim tp : Nat} {ob ob' : Obs} {tb tb' : Tb} {bs : List Bx} {F : Nat → Prop} (h : NS w wr lim tp ob tb bs) (h1 : HT wr w.heap.size w.heap.size lim tp ob tb F) (h2 : ∀ p ∈ bs, ¬ F p.b) (hok : HTOk wr w' w.heap.size w.heap.size lim tp ob' tb' F) : NS w w' lim tp ob' tb' bs := by
  have hb := hok.bel (w0 := w) h1 h.below.size
  obtain ⟨F', h3, h4⟩ := hok
  refine ⟨h.below.trans hb, ⟨F', h3, fun p hp hF => ?_⟩, fun p hp => (h.box p hp).keeps h4.keeps (h2 p hp)⟩
  rcases h4.grow p.b hF with e | e
  · exact h2 p hp e
  · have := (h.box p hp).lt; omega
theorem NS.read {w wr : World} {lim tp : Nat} {ob : Obs} {tb : Tb} {bs : List Bx} (h : NS w wr lim tp ob tb bs) (hS : Sys w) (h1 : 0 < tb.syms.length) (u : ByteArray) (hu : u.size < 1000000) (hv : validD u.data.toList = true) (at_ : Int) {A : Ans} (hA : readR lim (runes u.data.toList) at_ ob tb = A)
    {x : Wd} {en c k : Int} (hans : (A.x, A.en, A.c, A.k) = (x, en, c, k)) (hnf : c ≠ 7) :
    Calls Tryz.prog 16 #[ptr w.heap.size, tptr tp, .string u, .int .i64 at_] wr fun e w' => e = .returned (.tuple #[wd x, .int .i64 en, .agg #[.int .i64 c, .int .i64 k]]) ∧ NS w w' lim tp A.ob A.tb bs := by
  obtain ⟨F, hH, h2⟩ := h.st
  simp only [Prod.mk.injEq] at hans
  obtain ⟨rfl, rfl, rfl, rfl⟩ := hans
  refine (read_any (w0 := w) hH h.below (Nat.le_refl _) hS h1 u hu hv at_ hA hnf).mono ?_
  rintro e w' ⟨rfl, hok⟩
  exact ⟨rfl, h.act hH h2 hok⟩
/-- All: the row of its words becomes a box. -/
theorem NS.all {w wr : World} {lim tp : Nat} {ob : Obs} {tb : Tb} {bs : List Bx} (h : NS w wr lim tp ob tb bs) (hS : Sys w) (h1 : 0 < tb.syms.length) (u : ByteArray) (hu : u.size < 1000000) (hv : validD u.data.toList = true) {l : List Wd} {s : St}
    (hR : allM lim (2 * (runes u.data.toList).length + 1) ((runes u.data.toList).length + 1) [] ⟨runes u.data.toList, ob, tb⟩ = .ok l s) (hl : l ≠ []) :
    Calls Tryz.prog 18 #[ptr w.heap.size, tptr tp, .string u] wr fun e w' => ∃ g c cur, e = .returned (.tuple #[.slice (some ⟨g, 0, none⟩) l.length c, .agg #[.int .i64 0, .int .i64 0]]) ∧ cur.toList.take (l.length * 2) = wcells l ∧ NS w w' lim tp s.ob s.tb (⟨g, cur, 28⟩ :: bs) := by
  obtain ⟨F, hH, h2⟩ := h.st
  refine (all_yes (w0 := w) hH h.below (Nat.le_refl _) hS h1 u hu hv rfl hR trivial).mono ?_
  rintro e w' ⟨A, c, rfl, hrow, F', h3, h4, hmi⟩
  rcases hrow.2 with ⟨_, h0⟩ | ⟨g, cap, cur, hv2, hg, hb, _, _, _, ht⟩
  · exact (hl (List.eq_nil_of_length_eq_zero h0)).elim
  · injection hv2 with e1 e2 e3
    subst e1 e3
    have hn := h.act hH h2 ⟨F', h3, h4⟩
    refine ⟨g, c, cur, rfl, ht, hn.below, ⟨F', h3, fun p hp => ?_⟩, fun p hp => ?_⟩
    · rcases List.mem_cons.1 hp with rfl | hp
      · exact hmi g rfl
      · intro hF
        rcases h4.grow p.b hF with e | e
        · exact h2 p hp e
        · have := (h.box p hp).lt; omega
    · rcases List.mem_cons.1 hp with rfl | hp
      · exact hb
      · exact hn.box p hp
end Go.Proofs.YtlibdhnlmekmhaaGreatDoor.Rd
end

/- Calls of Read, All and fresh as steps between states of a heap and a table. -/
section
namespace Go.Proofs.YtlibdhnlmekmhaaGreatDoor.Rd
set_option maxRecDepth 100000
open Go.RowKit Go.Maps Go.Lib
open Go.Proofs.YtlibdhnlmekmhaaGreatDoor.Own Go.Proofs.YtlibdhnlmekmhaaGreatDoor.Hp Go.Proofs.YtlibdhnlmekmhaaGreatDoor.Rep Go.Proofs.YtlibdhnlmekmhaaGreatDoor.Get Go.Proofs.YtlibdhnlmekmhaaGreatDoor.Add Go.Proofs.YtlibdhnlmekmhaaGreatDoor.Make Go.Proofs.YtlibdhnlmekmhaaGreatDoor.Utf Go.Proofs.YtlibdhnlmekmhaaGreatDoor.Strs Go.Proofs.YtlibdhnlmekmhaaGreatDoor.Clone Go.Proofs.YtlibdhnlmekmhaaGreatDoor.Car Go.Proofs.YtlibdhnlmekmhaaGreatDoor.Kit
open Go.Proofs.YtlibdhnlmekmhaaGreatDoor.Nt hiding Wd

theorem NS.car {w wr : World} {lim tp : Nat} {ob : Obs} {tb : Tb} {bs : List Bx} (h : NS w wr lim tp ob tb bs) (x : Wd) :
    Reads wr 17 #[ptr w.heap.size, wd x] (.tuple #[wd (carO ob x).1, .int .i64 (carO ob x).2]) := by
  obtain ⟨F, hH, _⟩ := h.st
  exact hH.car x
/-- A box of a word. -/
abbrev wbx (b : Nat) (x y : Int) : Bx := ⟨b, #[.int .i64 x, .int .i64 y], 28⟩
/-- A box of a fault. -/
abbrev fbx (b : Nat) (x y : Int) : Bx := ⟨b, #[.int .i64 x, .int .i64 y], 31⟩
abbrev wob (x y : Int) : Obj := .cells #[.int .i64 x, .int .i64 y] 28
abbrev fob (x y : Int) : Obj := .cells #[.int .i64 x, .int .i64 y] 31
theorem NS.word {w wr : World} {lim tp : Nat} {ob : Obs} {tb : Tb} {bs : List Bx} (h : NS w wr lim tp ob tb bs) (x y : Int) : NS w (wr.alloc (wob x y)) lim tp ob tb (wbx wr.heap.size x y :: bs) := h.alloc _ _
theorem NS.fault {w wr : World} {lim tp : Nat} {ob : Obs} {tb : Tb} {bs : List Bx} (h : NS w wr lim tp ob tb bs) (x y : Int) : NS w (wr.alloc (fob x y)) lim tp ob tb (fbx wr.heap.size x y :: bs) := h.alloc _ _
/-- Behind a Read: its two boxes. -/
theorem NS.two {w wr : World} {lim tp : Nat} {ob : Obs} {tb : Tb} {bs : List Bx} (h : NS w wr lim tp ob tb bs) (x y c k : Int) :
    NS w ((wr.alloc (wob x y)).alloc (fob c k)) lim tp ob tb (fbx (wr.heap.size + 1) c k :: wbx wr.heap.size x y :: bs) := by
  have := (h.word x y).fault c k
  rwa [World.size_alloc] at this

def FStep (lim : Nat) (ob : Obs) (tb : Tb) : Prop :=
  ∀ w : World, Tabs w → Calls Tryz.prog 15 #[.int .i64 (lim : Int)] w fun e w' => ∃ tp, e = .returned (.tuple #[ptr w.heap.size, tptr tp]) ∧ NS w w' lim tp ob tb []
theorem FStep.of {lim : Nat} (h1 : 1 ≤ lim) (h2 : lim ≤ 65536) : FStep lim Quick.noObs t0 := by
  intro w hT
  refine (fresh_any lim h1 h2 w hT).mono ?_
  rintro e w' ⟨tp, F, rfl, hH, hb⟩
  exact ⟨tp, rfl, NS.start hH hb⟩
def RStep (lim : Nat) (u : ByteArray) (at_ : Int) (ob : Obs) (tb : Tb) (x : Wd) (en c k : Int) (ob' : Obs) (tb' : Tb) : Prop :=
  ∀ (w wr : World) (tp : Nat) (bs : List Bx), Sys w → NS w wr lim tp ob tb bs →
    Calls Tryz.prog 16 #[ptr w.heap.size, tptr tp, .string u, .int .i64 at_] wr fun e w' => e = .returned (.tuple #[wd x, .int .i64 en, .agg #[.int .i64 c, .int .i64 k]]) ∧ NS w w' lim tp ob' tb' bs
theorem RStep.of {lim : Nat} {u : ByteArray} {at_ : Int} {ob : Obs} {tb : Tb} (h1 : 0 < tb.syms.length) (hu : u.size < 1000000) (hv : validD u.data.toList = true) {A : Ans} (hA : readR lim (runes u.data.toList) at_ ob tb = A)
    {x : Wd} {en c k : Int} (hans : (A.x, A.en, A.c, A.k) = (x, en, c, k)) (hnf : c ≠ 7) : RStep lim u at_ ob tb x en c k A.ob A.tb :=
  fun _ _ _ _ hS h => h.read hS h1 u hu hv at_ hA hans hnf
def AStep (lim : Nat) (u : ByteArray) (ob : Obs) (tb : Tb) (l : List Wd) (ob' : Obs) (tb' : Tb) : Prop :=
  ∀ (w wr : World) (tp : Nat) (bs : List Bx), Sys w → NS w wr lim tp ob tb bs →
    Calls Tryz.prog 18 #[ptr w.heap.size, tptr tp, .string u] wr fun e w' => ∃ g c cur, e = .returned (.tuple #[.slice (some ⟨g, 0, none⟩) l.length c, .agg #[.int .i64 0, .int .i64 0]]) ∧ cur.toList.take (l.length * 2) = wcells l ∧ NS w w' lim tp ob' tb' (⟨g, cur, 28⟩ :: bs)
theorem AStep.of {lim : Nat} {u : ByteArray} {ob : Obs} {tb : Tb} (h1 : 0 < tb.syms.length) (hu : u.size < 1000000) (hv : validD u.data.toList = true) {l : List Wd} {s : St}
    (hR : allM lim (2 * (runes u.data.toList).length + 1) ((runes u.data.toList).length + 1) [] ⟨runes u.data.toList, ob, tb⟩ = .ok l s) (hl : l ≠ []) : AStep lim u ob tb l s.ob s.tb :=
  fun _ _ _ _ hS h => h.all hS h1 u hu hv hR hl
/-- A fact of a box's cell. -/
theorem NS.cell {w wr : World} {lim tp : Nat} {ob : Obs} {tb : Tb} {bs : List Bx} (h : NS w wr lim tp ob tb bs) (p : Bx) (hp : p ∈ bs) (i : Nat) (v : Value) (hv : p.cs[i]? = some v) : ∀ y : Grown wr, y.w.cell? ⟨p.b, i, none⟩ = some v :=
  fun y => ((h.box p hp).below y.below).cell i v hv
end Go.Proofs.YtlibdhnlmekmhaaGreatDoor.Rd
end

/- The contracts of define, SetFunc, ClearFunc and Func. -/
section
namespace Go.Proofs.YtlibdhnlmekmhaaGreatDoor.Nt
set_option maxRecDepth 100000
open Go.RowKit
open Go.Proofs.YtlibdhnlmekmhaaGreatDoor.Own

theorem scells_split (l : List Sy) (ps : Nat → Value) (j k : Nat) (s : Sy) (h : l[k]? = some s) :
    scells l ps j = scells (l.take k) ps j ++ (syCells s (ps (j + k)) ++ scells (l.drop (k + 1)) ps (j + k + 1)) := by
  induction l generalizing j k with
  | nil => simp at h
  | cons x l ih =>
    cases k with
    | zero =>
      simp at h
      subst h
      simp [scells]
    | succ k =>
      simp at h
      simp only [List.take_succ_cons, List.drop_succ_cons, scells, List.append_assoc]
      rw [ih (j + 1) k h, show j + 1 + k = j + (k + 1) by omega]
theorem scells_put (l : List Sy) (ps qs : Nat → Value) (k : Nat) (s s' : Sy) (h : l[k]? = some s) (hq : ∀ i, i ≠ k → qs i = ps i) :
    scells (l.set k s') qs 0 = scells (l.take k) ps 0 ++ (syCells s' (qs k) ++ scells (l.drop (k + 1)) ps (k + 1)) := by
  have hk : k < l.length := (List.getElem?_eq_some_iff.1 h).1
  rw [scells_split (l.set k s') qs 0 k s' (by simp [hk])]
  have e1 : (l.set k s').take k = l.take k := by rw [List.take_set]; exact List.set_eq_of_length_le (by rw [List.length_take]; omega)
  have e2 : (l.set k s').drop (k + 1) = l.drop (k + 1) := by rw [List.drop_set]; simp
  rw [e1, e2, Nat.zero_add]
  congr 1
  · exact scells_congr _ _ _ _ fun i hi => hq _ (by rw [List.length_take] at hi; omega)
  · congr 1
    exact scells_congr _ _ _ _ fun i hi => hq _ (by omega)
theorem set_mid {a b c : List Value} {n i : Nat} {v : Value} (ha : a.length = n) (hi : i < b.length) : (a ++ (b ++ c)).set (n + i) v = a ++ (b.set i v ++ c) := by
  subst ha
  rw [List.set_append_right _ _ (by omega), Nat.add_sub_cancel_left, List.set_append_left _ _ hi]
/-- A function is laid in a symbol's cells. -/
theorem scells_fn (l : List Sy) (ps : Nat → Value) (k : Nat) (s : Sy) (h : l[k]? = some s) (a b : Int) (c : Bool) :
    (((scells l ps 0).set (k * 5 + 1) (.int .i64 a)).set (k * 5 + 2) (.int .i64 b)).set (k * 5 + 3) (.bool c) = scells (l.set k ⟨s.name, (a, b), c, s.props⟩) ps 0 := by
  have hk : k < l.length := (List.getElem?_eq_some_iff.1 h).1
  have hl : (scells (l.take k) ps 0).length = k * 5 := by rw [scells_length, List.length_take]; congr 1; omega
  rw [scells_split l ps 0 k s h, scells_put l ps ps k s _ h (fun _ _ => rfl), Nat.zero_add, set_mid hl (by simp [syCells]), set_mid hl (by simp [syCells]), set_mid hl (by simp [syCells])]
  rfl
/-- A slice of properties is laid in a symbol's cell. -/
theorem scells_ps (l : List Sy) (ps qs : Nat → Value) (k : Nat) (s : Sy) (pr : List (Int × Wd)) (h : l[k]? = some s) (hq : ∀ i, i ≠ k → qs i = ps i) :
    (scells l ps 0).set (k * 5 + 4) (qs k) = scells (l.set k ⟨s.name, s.fn, s.has, pr⟩) qs 0 := by
  have hk : k < l.length := (List.getElem?_eq_some_iff.1 h).1
  have hl : (scells (l.take k) ps 0).length = k * 5 := by rw [scells_length, List.length_take]; congr 1; omega
  rw [scells_split l ps 0 k s h, scells_put l ps qs k s _ h hq, Nat.zero_add, set_mid hl (by simp [syCells])]
  rfl

/-- A table behind a change of one symbol, its name kept. -/
theorem set_found {t : Tb} {k : Nat} {s s' : Sy} (h : ∀ u (n : Nat), t.find u = some n → ∃ y : Sy, t.syms[n]? = some y ∧ y.name = u) (hs : t.syms[k]? = some s) (hn : s'.name = s.name) :
    ∀ u (n : Nat), t.find u = some n → ∃ y : Sy, (t.syms.set k s')[n]? = some y ∧ y.name = u := by
  intro u n hu
  obtain ⟨y, hy, hyn⟩ := h u n hu
  by_cases e : n = k
  · subst e
    rw [hs] at hy
    cases hy
    exact ⟨s', by rw [List.getElem?_set_self (List.getElem?_eq_some_iff.1 hs).1], by rw [hn, hyn]⟩
  · exact ⟨y, by rw [List.getElem?_set_ne (fun h => e h.symm)]; exact hy, hyn⟩
theorem set_each {t : Tb} {k : Nat} {s' : Sy} {Q : Nat → Sy → Prop} (h : ∀ (i : Nat) (s : Sy), t.syms[i]? = some s → Q i s) (hq : Q k s') : ∀ (i : Nat) (s : Sy), (t.syms.set k s')[i]? = some s → Q i s := by
  intro i s hi
  by_cases e : i = k
  · subst e
    by_cases hk : i < t.syms.length
    · rw [List.getElem?_set_self hk] at hi
      cases hi
      exact hq
    · rw [List.getElem?_eq_none (by simp; omega)] at hi
      cases hi
  · rw [List.getElem?_set_ne (fun h => e h.symm)] at hi
    exact h i s hi

theorem TabIs.defined {w : World} {base tp g cap k : Nat} {t : Tb} {lab : Nat → Option TLab} {P : TParts} {s : Sy} (h : TabIs w base tp t lab P) (hv : P.sv = .slice (some ⟨g, 0, none⟩) t.syms.length cap) (hs : t.syms[k]? = some s) (a b : Int) (c : Bool) :
    TabOk w (((w.setCell ⟨g, k * 5 + 1, none⟩ (.int .i64 a)).setCell ⟨g, k * 5 + 2, none⟩ (.int .i64 b)).setCell ⟨g, k * 5 + 3, none⟩ (.bool c)) base tp ⟨t.syms.set k ⟨s.name, (a, b), c, s.props⟩, t.find⟩ lab := by
  have hg : lab g = some .syms := h.slab g (by rw [hv]; rfl)
  have hk : Keeps (fun b => b = g) w (((w.setCell ⟨g, k * 5 + 1, none⟩ (.int .i64 a)).setCell ⟨g, k * 5 + 2, none⟩ (.int .i64 b)).setCell ⟨g, k * 5 + 3, none⟩ (.bool c)) :=
    (((Keeps.refl (fun b => b = g) w).setCell ⟨g, k * 5 + 1, none⟩ _ fun _ => rfl).setCell ⟨g, k * 5 + 2, none⟩ _ fun _ => rfl).setCell ⟨g, k * 5 + 3, none⟩ _ fun _ => rfl
  have hF : ∀ b l, lab b = some l → l ≠ .syms → ¬ (b = g) := fun b l hl hne e => by
    subst e
    rw [hg] at hl
    cases hl
    exact hne rfl
  have hrow := h.syms
  rw [hv] at hrow
  have hrow' := owns_set (owns_set (owns_set hrow (k * 5 + 1) (.int .i64 a)) (k * 5 + 2) (.int .i64 b)) (k * 5 + 3) (.bool c)
  rw [scells_fn t.syms P.ps k s hs] at hrow'
  refine ⟨lab, P, ?_, ⟨hk.mono fun b _ e => ?_, fun b hb => .inl hb⟩⟩
  · exact { h with
      inb := fun b l hl => ⟨(h.inb b l hl).1, Nat.lt_of_lt_of_le (h.inb b l hl).2 hk.size⟩
      blk := h.blk.keeps hk (hF _ _ h.hdr (by simp))
      map := by
        have := h.map.keeps hk (hF _ _ h.mlab (by simp))
        simpa using this
      syms := by
        rw [hv, List.length_set]
        exact hrow'
      props := set_each (Q := fun i s => World.ownsRow _ base 285 3 (P.ps i) s.props.length (pcells s.props)) (fun i s hi => owns_keeps (h.props i s hi) hk fun b hb => hF _ _ (h.plab i b hb) (by simp)) (owns_keeps (h.props k s hs) hk fun b hb => hF _ _ (h.plab k b hb) (by simp))
      tail := fun i hi => h.tail i (by simpa using hi)
      many := by simpa using h.many
      pmany := set_each (Q := fun _ s => s.props.length ≤ 16384) h.pmany (h.pmany k s hs)
      small := set_each (Q := fun _ s => s.name.size ≤ 4611686018427387904) h.small (h.small k s hs)
      found := set_found h.found hs rfl
      sorted := set_each (Q := fun _ s => Asc s.props) h.sorted (h.sorted k s hs) }
  · subst e
    unfold TOf
    rw [hg]
    simp

/-- What define returns, and the table behind it. -/
def defineO (t : Tb) (i : Int) (w : Wd) (has : Bool) : Int × Tb :=
  match symO t i with
  | none => (8, t)
  | some s => if i = 0 ∨ i = 1 then (10, t) else (0, ⟨t.syms.set i.toNat ⟨s.name, w, has, s.props⟩, t.find⟩)

abbrev wboxN (x : Wd) : Obj := .cells #[.int .i64 x.1, .int .i64 x.2] 28
theorem boxN_below (w : World) (x : Wd) : Below w.heap.size w (w.alloc (wboxN x)) := (Below.refl _ _).alloc (Nat.le_refl _) _

/-- What Func returns. -/
def funcO (t : Tb) (i : Int) : Wd × Bool := match symO t i with | some s => (s.fn, s.has) | none => ((0, 0), false)
end Go.Proofs.YtlibdhnlmekmhaaGreatDoor.Nt
end

/- The contracts of the statements' small functions: Int, Sym, Nil, Pick, Times; the reference's list of fixed names. -/
section
namespace Go.Proofs.YtlibdhnlmekmhaaGreatDoor.Nt
set_option maxRecDepth 100000
open Go.RowKit
open Go.Proofs.YtlibdhnlmekmhaaGreatDoor.Own Go.Proofs.YtlibdhnlmekmhaaGreatDoor.Strs

theorem int_any (n : Int) (w : World) : Calls Tryz.prog 20 #[.int .i64 n] w fun e w' => e = .returned (wdv (0, n)) ∧ Below w.heap.size w w' := by
  go_enter Tryz.func20, Tryz.ntmps20
  go_wp2
  refine bodyPost_ret (v := wdv (0, n)) (by simp [results, Tryz.results20, go_sem]) rfl ⟨rfl, (Below.refl _ _).alloc (Nat.le_refl _) _⟩
theorem sym_any (n : Int) (w : World) : Calls Tryz.prog 19 #[.int .i64 n] w fun e w' => e = .returned (wdv (1, n)) ∧ Below w.heap.size w w' := by
  go_enter Tryz.func19, Tryz.ntmps19
  go_wp2
  refine bodyPost_ret (v := wdv (1, n)) (by simp [results, Tryz.results19, go_sem]) rfl ⟨rfl, (Below.refl _ _).alloc (Nat.le_refl _) _⟩
theorem nil_any (w : World) : Calls Tryz.prog 45 #[] w fun e w' => e = .returned (wdv (1, 0)) ∧ Below w.heap.size w w' := by
  have HS := Lib.hid (sym_any 0)
  go_enter Tryz.func45, Tryz.ntmps45
  go_wp2_with fail
  refine (HS.out _).mono ?_
  rintro e w1 ⟨rfl, hb⟩
  obtain ⟨b0, b1, e0, e1⟩ := (one_new hb).two
  go_wp2_with fail
  refine bodyPost_ret (v := wdv (1, 0)) (by simp [results, Tryz.results45, go_sem, b0, b1]) rfl ⟨rfl, ?_⟩
  exact ((((Below.refl w.heap.size w).alloc (Nat.le_refl _) _).trans (hb.mono (by simp))).setCell (by simp) _).setCell (by simp) _

/-- The number that Pick picks. -/
def pickZ (x n : Int) : Int := if x.tmod n < 0 then x.tmod n + n else x.tmod n
theorem pick_range (x n : Int) (h : 0 < n) : 0 ≤ pickZ x n ∧ pickZ x n < n := by
  have h1 := Int.tmod_lt_of_pos x h
  have h2 := Int.lt_tmod_of_pos x h
  unfold pickZ
  split <;> omega
set_option maxHeartbeats 1000000 in
theorem pick_any (x n : Int) (w : World) (h : 0 < n) (hn : n ≤ 4611686018427387904) :
    Calls Tryz.prog 28 #[.int .i64 x, .int .i64 n] w fun e w' => e = .returned (.int .i64 (pickZ x n)) ∧ w = w' := by
  have h1 := Int.tmod_lt_of_pos x h
  have h2 := Int.lt_tmod_of_pos x h
  unfold pickZ
  by_cases hneg : x.tmod n < 0
  · rw [if_pos hneg]
    go_enter Tryz.func28, Tryz.ntmps28
    go_wp2
    go_ret
    exact ⟨rfl, rfl⟩
  · rw [if_neg hneg]
    go_enter Tryz.func28, Tryz.ntmps28
    go_wp2
    go_ret
    exact ⟨rfl, rfl⟩
/-- .. as a natural number. -/
theorem pick_nat (x : Int) (n : Nat) (h : 0 < n) (hn : n ≤ 1000000) : ∃ k : Nat, k < n ∧ ∀ w, Calls Tryz.prog 28 #[.int .i64 x, .int .i64 (n : Int)] w fun e w' => e = .returned (.int .i64 (k : Int)) ∧ w = w' := by
  obtain ⟨k, hk⟩ := Int.eq_ofNat_of_zero_le (pick_range x n (by omega)).1
  have h2 := (pick_range x n (by omega)).2
  exact ⟨k, by omega, fun w => by rw [← hk]; exact pick_any x n w (by omega) (by omega)⟩

/-- A list n times. -/
def flat (n : Nat) (l : List UInt8) : List UInt8 := (List.replicate n l).flatten
theorem flat_add (a b : Nat) (l : List UInt8) : flat (a + b) l = flat a l ++ flat b l := by unfold flat; rw [← List.replicate_append_replicate, List.flatten_append]
theorem flat_length (n : Nat) (l : List UInt8) : (flat n l).length = n * l.length := by unfold flat; simp
set_option maxHeartbeats 2000000 in
theorem times_any (s : ByteArray) (n0 : Nat) (w : World) (hs : s.size ≤ 4) (hn : n0 ≤ 2000) :
    Calls Tryz.prog 27 #[.string s, .int .i64 (n0 : Int)] w fun e w' => (∃ R : ByteArray, e = .returned (.string R) ∧ R.data.toList = flat n0 s.data.toList) ∧ w = w' := by
  have hsl : s.data.toList.length = s.size := by simp
  have HL := Lib.hid hsl
  clear hsl
  go_enter Tryz.func27, Tryz.ntmps27
  go_wp2_with fail
  go_loop [0, 1, 5] (fun a b c => ∃ (S R : ByteArray) (nn k m : Nat), a = .string S ∧ b = .int .i64 (nn : Int) ∧ c = .string R ∧ Hid (k + nn * m = n0) ∧ k ≤ n0 ∧ nn ≤ n0 ∧ (0 < nn → m ≤ n0) ∧ m ≤ 4000 ∧ Hid (S.data.toList = flat m s.data.toList) ∧ Hid (R.data.toList = flat k s.data.toList)) (fun _ b _ => (intOf b).toNat)
  case atStart => exact ⟨s, ⟨#[]⟩, n0, 0, 1, rfl, rfl, rfl, (by show 0 + n0 * 1 = n0; omega), Nat.zero_le _, Nat.le_refl _, fun h => h, by omega, (by show s.data.toList = flat 1 s.data.toList; simp [flat]), (by show _ = _; simp [flat])⟩
  case round =>
    obtain ⟨S, R, nn, k, m, rfl, rfl, rfl, HK, hk, hnn, hm, hm4, HS, HR⟩ := hrel
    by_cases h0 : 0 < nn
    · have h0z : (0 : Int) < (nn : Int) := by omega
      have hm0 := hm h0
      have hSs : S.size = m * s.size := by
        have := congrArg List.length HS.out
        rw [flat_length, HL.out] at this
        simpa using this
      have hRs : R.size = k * s.size := by
        have := congrArg List.length HR.out
        rw [flat_length, HL.out] at this
        simpa using this
      have b1 : S.size ≤ 8000 := by rw [hSs]; exact Nat.le_trans (Nat.mul_le_mul (show m ≤ 2000 by omega) hs) (by omega)
      have b2 : R.size ≤ 8000 := by rw [hRs]; exact Nat.le_trans (Nat.mul_le_mul (show k ≤ 2000 by omega) hs) (by omega)
      have hSS : Hid ((S ++ S).data.toList = flat (2 * m) s.data.toList) := by
        show _ = _
        rw [show 2 * m = m + m by omega, flat_add, ← HS.out]
        simp
      by_cases hodd : nn % 2 = 1
      · have hz : (nn : Int).tmod 2 = 1 := by rw [Int.tmod_eq_emod_of_nonneg (by omega)]; omega
        have hz2 : ((nn : Int).tmod 2 == 1) = true := beq_iff_eq.2 hz
        have hz3 : (nn % 2 == 1) = true := beq_iff_eq.2 hodd
        have hz4 : (nn : Int) % 2 = 1 := by omega
        have hq : (nn : Int).tdiv 2 = ((nn / 2 : Nat) : Int) := by rw [Int.tdiv_eq_ediv_of_nonneg (by omega)]; omega
        have hRS : Hid ((R ++ S).data.toList = flat (k + m) s.data.toList) := by
          show _ = _
          rw [flat_add, ← HS.out, ← HR.out]
          simp
        have e2 : nn = 2 * (nn / 2) + 1 := by omega
        have HK2 : Hid (k + m + nn / 2 * (2 * m) = n0) := by
          show _ = _
          have := HK.out
          rw [e2, Nat.add_mul, Nat.one_mul] at this
          have e3 : nn / 2 * (2 * m) = 2 * (nn / 2) * m := by rw [← Nat.mul_assoc, Nat.mul_comm (nn / 2) 2]
          omega
        have hkm : k + m ≤ n0 := by have := HK2.out; omega
        clear hSs hRs hm e2
        go_wp2_with fail
        go_round
        case rel => exact ⟨S ++ S, R ++ S, nn / 2, k + m, 2 * m, rfl, (by go_num), rfl, HK2, hkm, by omega, fun h => by have := HK2.out; have := Nat.le_mul_of_pos_left (2 * m) h; omega, by omega, hSS, hRS⟩
        case measure => simp [intOf]; omega
      · have hz : (nn : Int).tmod 2 = 0 := by rw [Int.tmod_eq_emod_of_nonneg (by omega)]; omega
        have hz2 : ((nn : Int).tmod 2 == 1) = false := by rw [hz]; rfl
        have hz3 : (nn % 2 == 1) = false := beq_eq_false_iff_ne.2 hodd
        have hz4 : (nn : Int) % 2 = 0 := by omega
        have hq : (nn : Int).tdiv 2 = ((nn / 2 : Nat) : Int) := by rw [Int.tdiv_eq_ediv_of_nonneg (by omega)]; omega
        have e2 : nn = 2 * (nn / 2) := by omega
        have HK2 : Hid (k + nn / 2 * (2 * m) = n0) := by
          show _ = _
          have := HK.out
          rw [e2] at this
          have e3 : nn / 2 * (2 * m) = 2 * (nn / 2) * m := by rw [← Nat.mul_assoc, Nat.mul_comm (nn / 2) 2]
          omega
        clear hSs hRs hm e2
        go_wp2_with fail
        go_round
        case rel => exact ⟨S ++ S, R, nn / 2, k, 2 * m, rfl, (by go_num), rfl, HK2, hk, by omega, fun h => by have := HK2.out; have := Nat.le_mul_of_pos_left (2 * m) h; omega, by omega, hSS, HR⟩
        case measure => simp [intOf]; omega
    · obtain rfl : nn = 0 := by omega
      have hfin : R.data.toList = flat n0 s.data.toList := by
        have := HK.out
        rw [Nat.zero_mul, Nat.add_zero] at this
        rw [← this]
        exact HR.out
      have HF := Lib.hid hfin
      clear hfin HK HS HR hm
      go_wp2_with fail
      go_ret
      exact ⟨⟨R, rfl, HF.out⟩, rfl⟩

end Go.Proofs.YtlibdhnlmekmhaaGreatDoor.Nt
end

/- ReadInts: what its calls give. -/
section
namespace Go.Proofs.YtlibdhnlmekmhaaGreatDoor.Rd
set_option maxRecDepth 100000
open Go.RowKit Go.Maps Go.Lib
open Go.Proofs.YtlibdhnlmekmhaaGreatDoor.Own Go.Proofs.YtlibdhnlmekmhaaGreatDoor.Hp Go.Proofs.YtlibdhnlmekmhaaGreatDoor.Rep Go.Proofs.YtlibdhnlmekmhaaGreatDoor.Get Go.Proofs.YtlibdhnlmekmhaaGreatDoor.Add Go.Proofs.YtlibdhnlmekmhaaGreatDoor.Make Go.Proofs.YtlibdhnlmekmhaaGreatDoor.Utf Go.Proofs.YtlibdhnlmekmhaaGreatDoor.Strs Go.Proofs.YtlibdhnlmekmhaaGreatDoor.Clone Go.Proofs.YtlibdhnlmekmhaaGreatDoor.Car Go.Proofs.YtlibdhnlmekmhaaGreatDoor.Kit
open Go.Proofs.YtlibdhnlmekmhaaGreatDoor.Nt hiding Wd

theorem str_add (a b : ByteArray) : (a ++ b).data.toList = a.data.toList ++ b.data.toList := by simp
theorem RStep.enc {lim : Nat} {u : ByteArray} {L : List Int} (hu : u.data.toList = enc L) (hC : ∀ c ∈ L, isC c) (hl : L.length ≤ 200000) {ob : Obs} {tb : Tb} (h1 : 0 < tb.syms.length) {at_ : Int} {x : Wd} {en c k : Int} {ob' : Obs} {tb' : Tb}
    (hr : readR lim L at_ ob tb = ⟨x, en, c, k, ob', tb'⟩) (hnf : c ≠ 7) : RStep lim u at_ ob tb x en c k ob' tb' := by
  have hs : u.size < 1000000 := by
    have h4 := enc_len4 L
    rw [← hu, ← Lib.size_eq] at h4
    omega
  have hv : validD u.data.toList = true := by rw [hu]; exact valid_enc_all _ hC
  have hr' : readR lim (runes u.data.toList) at_ ob tb = ⟨x, en, c, k, ob', tb'⟩ := by rw [hu, runes_enc_all _ hC]; exact hr
  exact RStep.of h1 hs hv hr' rfl hnf
theorem numZ_isC (z n : Nat) : ∀ c ∈ numZ z n, isC c := by
  intro c hc
  have := (digitB_iff c).1 (List.all_eq_true.1 (numZ_ok z n).1 c hc)
  exact ⟨by omega, by omega, .inl (by omega)⟩
theorem numZ_len {z n : Nat} (hz : z ≤ 40) (hn : n < 9223372036854775808) : (numZ z n).length ≤ 60 := by
  have := decZ_len n 18 (by omega)
  unfold numZ
  rw [List.length_append, List.length_replicate]
  omega
theorem flat_enc : ∀ z : Nat, flat z [48] = enc (List.replicate z 48)
  | 0 => rfl
  | z + 1 => by
    have ih := flat_enc z
    unfold flat at ih ⊢
    rw [List.replicate_succ, List.flatten_cons, List.replicate_succ, enc_cons, enc_one (by omega) (by omega), ih]
    rfl
theorem numZ_bytes {R : ByteArray} {z n : Nat} (hR : R.data.toList = flat z [48]) : (R ++ strOf (enc (decZ n))).data.toList = enc (numZ z n) := by
  rw [str_add, hR, strOf_list, numZ, enc_append, flat_enc]
theorem numA_in {v : Int} {len : Nat} (h : -2305843009213693952 ≤ v ∧ v ≤ 2305843009213693951) : numA v len = ⟨(0, v), len, 0, 0, Quick.noObs, t0⟩ := by unfold numA; rw [if_pos h]
theorem numA_out {v : Int} {len : Nat} (h : ¬ (-2305843009213693952 ≤ v ∧ v ≤ 2305843009213693951)) : numA v len = ⟨(0, 0), 0, 15, 0, Quick.noObs, t0⟩ := by unfold numA; rw [if_neg h]
/-- The three calls of the statement: the numeral alone, behind a minus, between a plus and a bracket. -/
structure I3 (S : ByteArray) (x1 : Wd) (e1 c1 : Int) (x2 : Wd) (e2 c2 : Int) (x3 : Wd) (e3 c3 : Int) : Prop where
  r1 : RStep 1 S 0 Quick.noObs t0 x1 e1 c1 0 Quick.noObs t0
  r2 : RStep 1 (⟨#[45]⟩ ++ S) 0 Quick.noObs t0 x2 e2 c2 0 Quick.noObs t0
  r3 : RStep 1 (⟨#[43]⟩ ++ S ++ ⟨#[41]⟩) 0 Quick.noObs t0 x3 e3 c3 0 Quick.noObs t0
theorem ints_three {S : ByteArray} {z n : Nat} (hz : z ≤ 40) (hn : n < 9223372036854775808) (hS : S.data.toList = enc (numZ z n)) {A1 A2 A3 : Ans} (h1 : numA n (numZ z n).length = A1) (h2 : numA (-(n : Int)) ((numZ z n).length + 1) = A2) (h3 : numA n ((numZ z n).length + 1) = A3)
    (o1 : (A1.k, A1.ob, A1.tb) = (0, Quick.noObs, t0)) (o2 : (A2.k, A2.ob, A2.tb) = (0, Quick.noObs, t0)) (o3 : (A3.k, A3.ob, A3.tb) = (0, Quick.noObs, t0)) (n1 : A1.c ≠ 7) (n2 : A2.c ≠ 7) (n3 : A3.c ≠ 7) :
    I3 S A1.x A1.en A1.c A2.x A2.en A2.c A3.x A3.en A3.c := by
  obtain ⟨x1, e1, c1, k1, ob1, tb1⟩ := A1
  obtain ⟨x2, e2, c2, k2, ob2, tb2⟩ := A2
  obtain ⟨x3, e3, c3, k3, ob3, tb3⟩ := A3
  simp only [Prod.mk.injEq] at o1 o2 o3
  obtain ⟨rfl, rfl, rfl⟩ := o1
  obtain ⟨rfl, rfl, rfl⟩ := o2
  obtain ⟨rfl, rfl, rfl⟩ := o3
  obtain ⟨t1, t2, t3⟩ := read_three 1 z n
  rw [h1] at t1
  rw [h2] at t2
  rw [h3] at t3
  have hC := numZ_isC z n
  have hl := numZ_len hz hn
  have h0 : 0 < t0.syms.length := by rw [t0_length]; omega
  have c45 : isC 45 := ⟨by omega, by omega, .inl (by omega)⟩
  have c43 : isC 43 := ⟨by omega, by omega, .inl (by omega)⟩
  have c41 : isC 41 := ⟨by omega, by omega, .inl (by omega)⟩
  refine ⟨.enc hS hC (by omega) h0 t1 n1, .enc (L := 45 :: numZ z n) ?_ ?_ (by simp; omega) h0 t2 n2, .enc (L := 43 :: (numZ z n ++ [41])) ?_ ?_ (by simp; omega) h0 t3 n3⟩
  · rw [str_add, hS, enc_cons, enc_one (by omega) (by omega)]
    rfl
  · intro c hc
    rcases List.mem_cons.1 hc with rfl | hc
    · exact c45
    · exact hC c hc
  · rw [str_add, str_add, hS, enc_cons, enc_append, enc_one (by omega) (by omega), enc_cons, enc_one (by omega) (by omega)]
    simp [enc]
  · intro c hc
    simp only [List.mem_cons, List.mem_append, List.not_mem_nil, or_false] at hc
    rcases hc with rfl | hc | rfl
    · exact c43
    · exact hC c hc
    · exact c41
end Go.Proofs.YtlibdhnlmekmhaaGreatDoor.Rd
end
