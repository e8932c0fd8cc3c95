/- HeapHolds: the heap, the row of conses and the law's boxes in one structure. -/
import Derived.Test.YtcdlfgggmigcnaaDoorLawHolds
namespace Go.Proofs.YtcdlfgggmigcnaaDoor.Holds
set_option maxRecDepth 100000
open Go.RowKit
open Go.Lib (validD)
open Go.Proofs.YtcdlfgggmigcnaaDoor.Own Go.Proofs.YtcdlfgggmigcnaaDoor.Hp Go.Proofs.YtcdlfgggmigcnaaDoor.Rep Go.Proofs.YtcdlfgggmigcnaaDoor.Get Go.Proofs.YtcdlfgggmigcnaaDoor.Quick Go.Proofs.YtcdlfgggmigcnaaDoor.Add Go.Proofs.YtcdlfgggmigcnaaDoor.Make Go.Proofs.YtcdlfgggmigcnaaDoor.Kit Go.Proofs.YtcdlfgggmigcnaaDoor.Strs Go.Proofs.YtcdlfgggmigcnaaDoor.Clone Go.Proofs.YtcdlfgggmigcnaaDoor.Lives Go.Proofs.YtcdlfgggmigcnaaDoor.Car Go.Proofs.YtcdlfgggmigcnaaDoor.SetCar Go.Proofs.YtcdlfgggmigcnaaDoor.Elem

/-- A heap over w with the vector m, perhaps a text, and k conses; a row of r conses' words; boxes of words. -/
structure Hs (w wr : World) (m l : List Wd) (d : Nat → Wd) (T : Option (ByteArray × Nat)) (k r : Nat) (v : Value) (bs : List (Nat × Wd)) : Prop where
  below : Below w.heap.size w wr
  is : ∃ lab P, HeapIs wr w.heap.size w.heap.size 200 (obH m l d T k) lab P ∧ (∀ b, v.ownBlock = some b → lab b = none) ∧ ∀ p ∈ bs, lab p.1 = none
  row : wr.ownsRow w.heap.size 28 2 v r (wcells (cw T r))
  box : ∀ p ∈ bs, Blk wr p.1 #[.int .i64 p.2.1, .int .i64 p.2.2] 28 ∧ v.ownBlock ≠ some p.1
theorem Hs.later {w wr W : World} {m l : List Wd} {d : Nat → Wd} {T : Option (ByteArray × Nat)} {k r : Nat} {v : Value} {bs : List (Nat × Wd)} (h : Hs w wr m l d T k r v bs) (hb : Below wr.heap.size wr W) : Hs w W m l d T k r v bs := by
  obtain ⟨h1, ⟨lab, P, h2, h3, h4⟩, h5, h6⟩ := h
  exact ⟨h1.trans (hb.mono h1.size), ⟨lab, P, h2.below hb, h3, h4⟩, owns_below h5 hb, fun p hp => ⟨(h6 p hp).1.below hb, (h6 p hp).2⟩⟩
theorem Hs.alloc {w wr : World} {m l : List Wd} {d : Nat → Wd} {T : Option (ByteArray × Nat)} {k r : Nat} {v : Value} {bs : List (Nat × Wd)} (h : Hs w wr m l d T k r v bs) (x : Wd) :
    Hs w (wr.alloc (.cells #[.int .i64 x.1, .int .i64 x.2] 28)) m l d T k r v ((wr.heap.size, x) :: bs) := by
  have h' := h.later ((Below.refl _ _).alloc (Nat.le_refl _) (.cells #[.int .i64 x.1, .int .i64 x.2] 28))
  obtain ⟨lab, P, h2, h3, h4⟩ := h.is
  refine ⟨h'.below, ⟨lab, P, h2.below ((Below.refl _ _).alloc (Nat.le_refl _) _), h3, fun p hp => ?_⟩, h'.row, fun p hp => ?_⟩
  · rcases List.mem_cons.1 hp with rfl | hp
    · exact lab_none h2 (Nat.le_refl _)
    · exact h4 p hp
  · rcases List.mem_cons.1 hp with rfl | hp
    · exact ⟨Blk.new wr _ _, fun e => by have := (h.row.lt _ e).2; omega⟩
    · exact h'.box p hp
/-- A box is written anew. -/
theorem Hs.set {w W : World} {m l : List Wd} {d : Nat → Wd} {T : Option (ByteArray × Nat)} {k r b : Nat} {v : Value} {z : Wd} {bs : List (Nat × Wd)} (h : Hs w W m l d T k r v ((b, z) :: bs)) (hne : ∀ p ∈ bs, p.1 ≠ b) (hb : w.heap.size ≤ b) (x y : Int) :
    Hs w ((W.setCell ⟨b, 0, none⟩ (.int .i64 x)).setCell ⟨b, 1, none⟩ (.int .i64 y)) m l d T k r v ((b, (x, y)) :: bs) := by
  obtain ⟨h1, ⟨lab, P, h2, h3, h4⟩, h5, h6⟩ := h
  have hk : Keeps (fun q => q = b) W ((W.setCell ⟨b, 0, none⟩ (.int .i64 x)).setCell ⟨b, 1, none⟩ (.int .i64 y)) := ((Keeps.refl (fun q => q = b) W).setCell ⟨b, 0, none⟩ (.int .i64 x) fun _ => rfl).setCell ⟨b, 1, none⟩ (.int .i64 y) fun _ => rfl
  have hl : lab b = none := h4 (b, z) (by simp)
  obtain ⟨g1, g2⟩ := h6 (b, z) (by simp)
  refine ⟨h1.trans (hk.below h1.size fun q e => by rw [e]; exact hb), ⟨lab, P, h2.keeps hk fun q e => by rw [e]; exact hl, h3, fun p hp => ?_⟩, owns_keeps h5 hk fun q e e2 => g2 (by rw [e, e2]), fun p hp => ?_⟩
  · rcases List.mem_cons.1 hp with rfl | hp
    · exact hl
    · exact h4 p (List.mem_cons_of_mem _ hp)
  · rcases List.mem_cons.1 hp with rfl | hp
    · exact ⟨(g1.set 0 _).set 1 _, g2⟩
    · exact ⟨(h6 p (List.mem_cons_of_mem _ hp)).1.keeps hk (hne p hp), (h6 p (List.mem_cons_of_mem _ hp)).2⟩
/-- A call that changes the heap. -/
theorem Hs.act {w wr : World} {m m' l : List Wd} {d d' : Nat → Wd} {T : Option (ByteArray × Nat)} {k k' r : Nat} {v ret : Value} {bs : List (Nat × Wd)} {f : FuncId} {args : Array Value} (h : Hs w wr m l d T k r v bs)
    (hc : ∀ lab P, HeapIs wr w.heap.size w.heap.size 200 (obH m l d T k) lab P → w.heap.size ≤ wr.heap.size → Calls Tryd.prog f args wr fun e w' => e = .returned ret ∧ ∃ lab' P', HeapIs w' w.heap.size w.heap.size 200 (obH m' l d' T k') lab' P' ∧ After wr w' lab lab') :
    Calls Tryd.prog f args wr fun e w' => e = .returned ret ∧ Hs w w' m' l d' T k' r v bs := by
  obtain ⟨h1, ⟨lab, P, h2, h3, h4⟩, h5, h6⟩ := h
  refine (hc lab P h2 h1.size).mono ?_
  rintro e w' ⟨rfl, lab', P', hI, hA⟩
  have hn : ∀ {b}, lab b = none → ¬ Of lab b := fun hb hf => hf hb
  exact ⟨rfl, h1.trans (after_below h2 h1.size hA), ⟨lab', P', hI, fun b hb => after_lab hA (h5.lt b hb).2 (h3 b hb), fun p hp => after_lab hA (h6 p hp).1.lt (h4 p hp)⟩, owns_keeps h5 hA.keeps fun b hb => hn (h3 b hb), fun p hp => ⟨(h6 p hp).1.keeps hA.keeps (hn (h4 p hp)), (h6 p hp).2⟩⟩
theorem Hs.cons {w wr : World} {m l : List Wd} {d : Nat → Wd} {T : Option (ByteArray × Nat)} {k r : Nat} {v : Value} {bs : List (Nat × Wd)} {y : Wd} (h : Hs w wr m l d T k r v bs) (hy : l[k]? = some y) (hk : k < 60) (hm : m.length ≤ 60) (hT : ∀ p, T = some p → p.2 ≤ 300) :
    Calls Tryd.prog 17 #[ptr w.heap.size, wd y, wd (d k)] wr fun e w' => e = .returned (.tuple #[wd (2, ((low T + k : Nat) : Int)), .int .i64 0]) ∧ Hs w w' m l d T (k + 1) r v bs :=
  h.act fun lab P hI hb => by
    have hc := cons_any hI hb y (d k)
    rw [obH_add m l d T k y hy hk hm hT] at hc
    exact hc
theorem Hs.setAt {w wr : World} {l : List Wd} {d : Nat → Wd} {T : Option (ByteArray × Nat)} {k r : Nat} {v : Value} {bs : List (Nat × Wd)} (h : Hs w wr l l d T k r v bs) (i : Nat) (hi : i < l.length) (x : Wd) :
    Calls Tryd.prog 31 #[ptr w.heap.size, wd (4, 0), .int .i64 (i : Int), wd x] wr fun e w' => e = .returned (.int .i64 0) ∧ Hs w w' (l.set i x) l d T k r v bs :=
  h.act fun lab P hI hb => by
    have hc := setAt_any hI (4, 0) (i : Int) x
    rw [obH_setAt l d T k i x hi] at hc
    exact hc.mono fun e w' ⟨h1, h2, h3⟩ => ⟨h1, lab, P, h2, h3, fun b hb => .inl hb⟩
theorem Hs.setCdr {w wr : World} {m l : List Wd} {d : Nat → Wd} {T : Option (ByteArray × Nat)} {k r : Nat} {v : Value} {bs : List (Nat × Wd)} (h : Hs w wr m l d T k r v bs) (i : Nat) (hi : i < k) (y : Wd) (hy : l[i]? = some y) (x : Wd) :
    Calls Tryd.prog 32 #[ptr w.heap.size, wd (2, ((low T + i : Nat) : Int)), wd x] wr fun e w' => e = .returned (.int .i64 0) ∧ Hs w w' m l (fun j => if j = i then x else d j) T k r v bs :=
  h.act fun lab P hI hb => by
    have hc := setCdr_any hI (2, ((low T + i : Nat) : Int)) x
    rw [obH_setCdr m l d T k i x y hi hy] at hc
    exact hc.mono fun e w' ⟨h1, h2, h3⟩ => ⟨h1, lab, P, h2, h3, fun b hb => .inl hb⟩
theorem Hs.car {w wr : World} {m l : List Wd} {d : Nat → Wd} {T : Option (ByteArray × Nat)} {k r : Nat} {v : Value} {bs : List (Nat × Wd)} (h : Hs w wr m l d T k r v bs) {j : Nat} {y : Wd} (hj : j < k) (hy : l[j]? = some y) :
    Reads wr 24 #[ptr w.heap.size, wd (2, ((low T + j : Nat) : Int))] (.tuple #[wd y, .int .i64 0]) := by
  obtain ⟨lab, P, h2, _⟩ := h.is
  have := car_any h2 (2, ((low T + j : Nat) : Int))
  rw [obH_car hj hy] at this
  exact this
theorem Hs.cdr {w wr : World} {m l : List Wd} {d : Nat → Wd} {T : Option (ByteArray × Nat)} {k r : Nat} {v : Value} {bs : List (Nat × Wd)} (h : Hs w wr m l d T k r v bs) {j : Nat} {y : Wd} (hj : j < k) (hy : l[j]? = some y) :
    Reads wr 34 #[ptr w.heap.size, wd (2, ((low T + j : Nat) : Int))] (.tuple #[wd (d j), .int .i64 0]) := by
  obtain ⟨lab, P, h2, _⟩ := h.is
  have := cdr_any h2 (2, ((low T + j : Nat) : Int))
  rw [obH_cdr hj hy] at this
  exact this
theorem Hs.vecOf {w wr : World} {m l : List Wd} {d : Nat → Wd} {T : Option (ByteArray × Nat)} {k r : Nat} {v : Value} {bs : List (Nat × Wd)} (h : Hs w wr m l d T k r v bs) :
    Calls Tryd.prog 33 #[ptr w.heap.size, wd (4, 0)] wr fun e w' => (∃ v, e = .returned (.tuple #[v, .int .i64 0]) ∧ w'.ownsRow wr.heap.size 28 2 v m.length (wcells m)) ∧ Below wr.heap.size wr w' := by
  obtain ⟨lab, P, h2, _⟩ := h.is
  have := vecOf_any h2 (4, 0)
  rw [obH_vecOf] at this
  exact this
theorem Hs.textOf {w wr : World} {m l : List Wd} {d : Nat → Wd} {T : Option (ByteArray × Nat)} {k r : Nat} {v : Value} {bs : List (Nat × Wd)} (h : Hs w wr m l d T k r v bs) (x : Wd) (hx : ∀ p, T = some p → x = (3, 1)) :
    ∃ (u : ByteArray) (q : Int), Reads wr 35 #[ptr w.heap.size, wd x] (.tuple #[.string u, .int .i64 q]) ∧ ∀ p, T = some p → u = p.1 ∧ q = 0 := by
  obtain ⟨lab, P, h2, _⟩ := h.is
  refine ⟨_, _, textOf_any h2 x, fun p hp => ?_⟩
  subst hp
  rw [hx p rfl, obH_textOf]
  exact ⟨rfl, rfl⟩
/-- A cons's word is appended. -/
theorem Hs.push {w wr W w' : World} {m l : List Wd} {d : Nat → Wd} {T : Option (ByteArray × Nat)} {k r c' : Nat} {v : Value} {A' : Option Addr} {bs : List (Nat × Wd)} (h : Hs w wr m l d T k r v bs) (hb : Below wr.heap.size wr W)
    (hap : Appended W w' w.heap.size 28 2 v (.slice A' (r + 1) c') (r + 1) (wcells (cw T r) ++ [.int .i64 2, .int .i64 ((low T + r : Nat) : Int)])) : Hs w w' m l d T k (r + 1) (.slice A' (r + 1) c') bs := by
  obtain ⟨h1, ⟨lab, P, h2, h3, h4⟩, h5, h6⟩ := h.later hb
  have hk : Keeps (fun b => v.ownBlock = some b) W w' := (Keeps.refl _ W).grown hap.grown fun k hk _ => hk
  refine ⟨h1.trans (hk.below h1.size fun b e => (h5.lt b e).1), ⟨lab, P, h2.keeps hk fun b e => h3 b e, fun b e => ?_, h4⟩, ?_, fun p hp => ⟨(h6 p hp).1.keeps hk fun e => (h6 p hp).2 e, fun e => ?_⟩⟩
  · rcases hap.place b e with e | e
    · exact h3 b e
    · exact lab_none h2 (by omega)
  · rw [cw_succ, wcells_append]
    exact hap.row
  · rcases hap.place _ e with e | e
    · exact (h6 p hp).2 e
    · have := (h6 p hp).1.lt
      omega
theorem Hs.cell {w wr : World} {m l : List Wd} {d : Nat → Wd} {T : Option (ByteArray × Nat)} {k r b : Nat} {v : Value} {x : Wd} {bs : List (Nat × Wd)} (h : Hs w wr m l d T k r v bs) (hm : (b, x) ∈ bs) : wr.cell? ⟨b, 0, none⟩ = some (.int .i64 x.1) ∧ wr.cell? ⟨b, 1, none⟩ = some (.int .i64 x.2) :=
  ⟨(h.box _ hm).1.cell 0 _ rfl, (h.box _ hm).1.cell 1 _ rfl⟩
theorem wc_at (l : List Wd) (k : Nat) (x : Wd) (h : l[k]? = some x) : (wcells l)[k * 2]? = some (.int .i64 x.1) ∧ (wcells l)[k * 2 + 1]? = some (.int .i64 x.2) := by
  obtain ⟨hk, rfl⟩ := List.getElem?_eq_some_iff.1 h
  exact Visit.wcells_at l k hk
theorem Hs.at {w wr : World} {m l : List Wd} {d : Nat → Wd} {T : Option (ByteArray × Nat)} {k r c j : Nat} {A : Option Addr} {bs : List (Nat × Wd)} (h : Hs w wr m l d T k r (.slice A r c) bs) (hj : j < r) :
    ∃ g, A = some ⟨g, 0, none⟩ ∧ wr.cell? ⟨g, j * 2, none⟩ = some (.int .i64 2) ∧ wr.cell? ⟨g, j * 2 + 1, none⟩ = some (.int .i64 ((low T + j : Nat) : Int)) := by
  have hr := h.row
  rcases id hr.2 with ⟨_, hz⟩ | ⟨g, cap, cur, hv, _⟩
  · omega
  · cases hv
    obtain ⟨e1, e2⟩ := wc_at _ _ _ (cw_at T r j hj)
    exact ⟨g, rfl, (Row.of_owns hr).cell _ _ e1, (Row.of_owns hr).cell _ _ e2⟩
theorem Hs.sub {w wr : World} {m l : List Wd} {d : Nat → Wd} {T : Option (ByteArray × Nat)} {k r : Nat} {v : Value} {bs bs' : List (Nat × Wd)} (h : Hs w wr m l d T k r v bs) (hs : ∀ p ∈ bs', p ∈ bs) : Hs w wr m l d T k r v bs' := by
  obtain ⟨h1, ⟨lab, P, h2, h3, h4⟩, h5, h6⟩ := h
  exact ⟨h1, ⟨lab, P, h2, h3, fun p hp => h4 p (hs p hp)⟩, h5, fun p hp => h6 p (hs p hp)⟩
theorem Hs.len {w wr : World} {m l : List Wd} {d : Nat → Wd} {T : Option (ByteArray × Nat)} {k r : Nat} {v : Value} {bs : List (Nat × Wd)} (h : Hs w wr m l d T k r v bs) : ∃ A c, v = .slice A r c := slice_of' h.row
/-- A word of a row that is read. -/
theorem row_at {W : World} {base n c j : Nat} {A : Option Addr} {l : List Wd} {y : Wd} (h : W.ownsRow base 28 2 (.slice A n c) n (wcells l)) (hj : j < n) (hy : l[j]? = some y) :
    ∃ g, A = some ⟨g, 0, none⟩ ∧ W.cell? ⟨g, j * 2, none⟩ = some (.int .i64 y.1) ∧ W.cell? ⟨g, j * 2 + 1, none⟩ = some (.int .i64 y.2) := by
  rcases id h.2 with ⟨_, hz⟩ | ⟨g, cap, cur, hv, _⟩
  · omega
  · cases hv
    obtain ⟨e1, e2⟩ := wc_at l j y hy
    exact ⟨g, rfl, (Row.of_owns h).cell _ _ e1, (Row.of_owns h).cell _ _ e2⟩
theorem slr_at {W : World} {n c j : Nat} {A : Option Addr} {l : List Wd} {y : Wd} (h : SlR W (.slice A n c) n (wcells l)) (hj : j < n) (hy : l[j]? = some y) :
    ∃ g off, A = some ⟨g, off, none⟩ ∧ ∀ W', Below W.heap.size W W' → W'.cell? ⟨g, off + j * 2, none⟩ = some (.int .i64 y.1) ∧ W'.cell? ⟨g, off + j * 2 + 1, none⟩ = some (.int .i64 y.2) := by
  obtain ⟨A', cap, hv, _, hr⟩ := h
  cases hv
  obtain ⟨g, off, rfl, hc⟩ := hr (by omega)
  obtain ⟨e1, e2⟩ := wc_at l j y hy
  refine ⟨g, off, rfl, fun W' hb => ⟨?_, ?_⟩⟩
  · exact (hb.cell (World.block_lt_of_cell? _ _ (hc _ _ e1))).trans (hc _ _ e1)
  · have := hc _ _ e2
    rw [← Nat.add_assoc] at this
    exact (hb.cell (World.block_lt_of_cell? _ _ this)).trans this
/-- The same, in a world that has grown out of another. -/
structure Hq (w w0 wr : World) (m l : List Wd) (d : Nat → Wd) (T : Option (ByteArray × Nat)) (k r : Nat) (v : Value) (bs : List (Nat × Wd)) : Prop where
  hs : Hs w wr m l d T k r v bs
  bel : Below w0.heap.size w0 wr
theorem Hq.later {w w0 wr W : World} {m l : List Wd} {d : Nat → Wd} {T : Option (ByteArray × Nat)} {k r : Nat} {v : Value} {bs : List (Nat × Wd)} (h : Hq w w0 wr m l d T k r v bs) (hb : Below wr.heap.size wr W) : Hq w w0 W m l d T k r v bs :=
  ⟨h.hs.later hb, h.bel.trans (hb.mono h.bel.size)⟩
theorem Hq.alloc {w w0 wr : World} {m l : List Wd} {d : Nat → Wd} {T : Option (ByteArray × Nat)} {k r : Nat} {v : Value} {bs : List (Nat × Wd)} (h : Hq w w0 wr m l d T k r v bs) (x : Wd) :
    Hq w w0 (wr.alloc (.cells #[.int .i64 x.1, .int .i64 x.2] 28)) m l d T k r v ((wr.heap.size, x) :: bs) :=
  ⟨h.hs.alloc x, h.bel.alloc h.bel.size _⟩
theorem Hq.set {w w0 W : World} {m l : List Wd} {d : Nat → Wd} {T : Option (ByteArray × Nat)} {k r b : Nat} {v : Value} {z : Wd} {bs : List (Nat × Wd)} (h : Hq w w0 W m l d T k r v ((b, z) :: bs)) (hne : ∀ p ∈ bs, p.1 ≠ b) (hb : w.heap.size ≤ b) (hb0 : w0.heap.size ≤ b) (x y : Int) :
    Hq w w0 ((W.setCell ⟨b, 0, none⟩ (.int .i64 x)).setCell ⟨b, 1, none⟩ (.int .i64 y)) m l d T k r v ((b, (x, y)) :: bs) :=
  ⟨h.hs.set hne hb x y, (h.bel.setCell hb0 _).setCell hb0 _⟩
theorem Hq.sub {w w0 wr : World} {m l : List Wd} {d : Nat → Wd} {T : Option (ByteArray × Nat)} {k r : Nat} {v : Value} {bs bs' : List (Nat × Wd)} (h : Hq w w0 wr m l d T k r v bs) (hs : ∀ p ∈ bs', p ∈ bs) : Hq w w0 wr m l d T k r v bs' := ⟨h.hs.sub hs, h.bel⟩
theorem bel_two (w : World) (a b : Obj) : Below w.heap.size w ((w.alloc a).alloc b) := ((Below.refl _ _).alloc (Nat.le_refl _) _).alloc (by simp) _
theorem vec_start (l : List Wd) (d : Nat → Wd) (h : l.length ≤ 60) : vecO noObs 200 l = ((4, 0), 0, obH l l d none 0) := by
  unfold vecO addO
  rw [if_neg (by omega)]
  have hf : freeTo noObs 200 = 0 := freeTo_unique _ _ _ (by omega) (fun i hi => by omega) fun _ => rfl
  rw [hf, usedTo_none, if_pos ⟨by omega, by simp only [Ob.size]; omega⟩, obH_start]
  rfl
/-- The first call: the vector. -/
theorem vec_first {w w2 : World} {lab : Nat → Option Lab} {P : Parts} {bs : List (Nat × Wd)} (hI : HeapIs w2 w.heap.size w.heap.size 200 noObs lab P) (hb : Below w.heap.size w w2) (hbs : ∀ p ∈ bs, p.1 < w.heap.size ∧ Blk w2 p.1 #[.int .i64 p.2.1, .int .i64 p.2.2] 28)
    (v : Value) (l : List Wd) (hl : SlR w2 v l.length (wcells l)) (hm : l.length ≤ 60) :
    Calls Tryd.prog 23 #[ptr w.heap.size, v] w2 fun e w' => e = .returned (.tuple #[wd (4, 0), .int .i64 0]) ∧ Hs w w' l l (fun _ => (4, 0)) none 0 0 (.slice none 0 0) bs := by
  have hc := vec_any hI hb.size v l hl (by omega)
  rw [vec_start l (fun _ => (4, 0)) hm] at hc
  refine hc.mono ?_
  rintro e w' ⟨rfl, lab', P', hI', hA⟩
  have hn : ∀ p ∈ bs, lab p.1 = none := fun p hp => by
    cases hh : lab p.1 with
    | none => rfl
    | some x => have := (hI.inb _ _ hh).1; have := (hbs p hp).1; omega
  exact ⟨rfl, hb.trans (after_below hI hb.size hA), ⟨lab', P', hI', fun b e => (by cases e), fun p hp => after_lab hA (hbs p hp).2.lt (hn p hp)⟩, ⟨rfl, .inl ⟨rfl, rfl⟩⟩, fun p hp => ⟨(hbs p hp).2.keeps hA.keeps fun hf => hf (hn p hp), fun e => by cases e⟩⟩
/-- The second call: the text. -/
theorem text_second {w wr : World} {l : List Wd} {v : Value} {bs : List (Nat × Wd)} (h : Hs w wr l l (fun _ => (4, 0)) none 0 0 v bs) (hm : l.length ≤ 60) (s : ByteArray) (hs : s.size ≤ 300) (hT : Tabs wr) (hv : v = .slice none 0 0) :
    ∃ (T : Option (ByteArray × Nat)) (x : Wd) (f : Int), ((f = 0 ∧ x = (3, 1) ∧ ∃ n, n ≤ 300 ∧ T = some (s, n)) ∨ (f = 5 ∧ x = (0, 0) ∧ T = none)) ∧
      Calls Tryd.prog 20 #[ptr w.heap.size, .string s] wr fun e w' => e = .returned (.tuple #[wd x, .int .i64 f]) ∧ Hs w w' l l (fun _ => (4, 0)) T 0 0 v bs := by
  subst hv
  obtain ⟨h1, ⟨lab, P, h2, h3, h4⟩, h5, h6⟩ := h
  have hc := text_any h2 h1.size s (by omega) hT
  have key : ∀ T x f, textO (obH l l (fun _ => (4, 0)) none 0) 200 s = (x, f, obH l l (fun _ => (4, 0)) T 0) → Calls Tryd.prog 20 #[ptr w.heap.size, .string s] wr fun e w' => e = .returned (.tuple #[wd x, .int .i64 f]) ∧ Hs w w' l l (fun _ => (4, 0)) T 0 0 (.slice none 0 0) bs := by
    intro T x f e
    rw [e] at hc
    refine hc.mono ?_
    rintro e w' ⟨rfl, lab', P', hI', hA⟩
    exact ⟨rfl, h1.trans (after_below h2 h1.size hA), ⟨lab', P', hI', fun b e => (by cases e), fun p hp => after_lab hA (h6 p hp).1.lt (h4 p hp)⟩, ⟨rfl, .inl ⟨rfl, rfl⟩⟩, fun p hp => ⟨(h6 p hp).1.keeps hA.keeps fun hf => hf (h4 p hp), fun e => by cases e⟩⟩
  cases hvd : validD s.data.toList with
  | false => exact ⟨none, (0, 0), 5, .inr ⟨rfl, rfl, rfl⟩, key none _ _ (by unfold textO; rw [if_pos hvd])⟩
  | true =>
    have hle : lenL s.data.toList ≤ 300 := by
      unfold lenL
      rw [if_pos hvd]
      have := Utf.runes_length s.data.toList
      have e : s.data.toList.length = s.size := by rw [Array.length_toList]; rfl
      omega
    refine ⟨some (s, lenL s.data.toList), (3, 1), 0, .inl ⟨rfl, rfl, _, hle, rfl⟩, key _ _ _ ?_⟩
    unfold textO addO
    have hlw := low_two (none : Option (ByteArray × Nat))
    rw [if_neg (fun h => by rw [hvd] at h; cases h), if_neg (by omega), obH_free l l _ none 0 200 (by omega)]
    have hu := obH_used l l (fun _ => (4, 0)) none 0 200 hm (fun p hp => by cases hp)
    rw [if_pos ⟨by omega, by simp only [Ob.size]; omega⟩]
    have := obH_textPut l l (fun _ => (4, 0)) (s, lenL s.data.toList)
    rw [← this]
    rfl
end Go.Proofs.YtcdlfgggmigcnaaDoor.Holds
