/- Worlds of which some blocks have been written: what is kept, and blocks that are known whole. | A map from names to numbers in memory, by the function that it is. | Symbol tables: what they hold, and how they lie in memory. | The contracts of the methods of a table that only read it: valid, symbol, Find, Name, Many, Interned. -/
import Derived.WalkKit
import Derived.Below
import Derived.Laws.AppendOwn
import Derived.Laws.OwnMore
import Derived.OwnWalk
import Derived.Lib.Hide
import Derived.BigQuiet
import Derived.Deep.QuietTactic
import Derived.Test.YtlibdhnlmekmhaaGreatDoorRows
import Derived.Maps.OwnSet
import Derived.Maps.AppendAt
import Derived.StringKeys
import Derived.Shelf.SlMaps.Clone
import Derived.WalkSpells
import Derived.WalkLawsBesides
import Derived.RegionTactic
import Derived.BigGuardPart
/- Worlds of which some blocks have been written: what is kept, and blocks that are known whole. -/
section
namespace Go.Proofs.YtlibdhnlmekmhaaGreatDoor.Own
open Go.RowKit

/-- Every block that stood in w stands in w' as it was, but for those that F names. -/
structure Keeps (F : Nat → Prop) (w w' : World) : Prop where
  os : w'.os = w.os
  tape : w'.tape = w.tape
  output : w'.output = w.output
  size : w.heap.size ≤ w'.heap.size
  block : ∀ k, k < w.heap.size → ¬ F k → w'.heap[k]? = w.heap[k]?

theorem Keeps.refl (F : Nat → Prop) (w : World) : Keeps F w w := ⟨rfl, rfl, rfl, Nat.le_refl _, fun _ _ _ => rfl⟩
theorem Keeps.trans {F : Nat → Prop} {a b c : World} (h : Keeps F a b) (k : Keeps F b c) : Keeps F a c :=
  ⟨k.os.trans h.os, k.tape.trans h.tape, k.output.trans h.output, Nat.le_trans h.size k.size, fun i hi hn => (k.block i (Nat.lt_of_lt_of_le hi h.size) hn).trans (h.block i hi hn)⟩
theorem Keeps.mono {F G : Nat → Prop} {a b : World} (h : Keeps F a b) (hg : ∀ k, k < a.heap.size → F k → G k) : Keeps G a b :=
  ⟨h.os, h.tape, h.output, h.size, fun i hi hn => h.block i hi fun hf => hn (hg i hi hf)⟩
/-- The second step may write what the first has made. -/
theorem Keeps.then {F G : Nat → Prop} {a b c : World} (h : Keeps F a b) (k : Keeps G b c) (hg : ∀ k, k < a.heap.size → G k → F k) : Keeps F a c :=
  ⟨k.os.trans h.os, k.tape.trans h.tape, k.output.trans h.output, Nat.le_trans h.size k.size, fun i hi hn => (k.block i (Nat.lt_of_lt_of_le hi h.size) fun hh => hn (hg i hi hh)).trans (h.block i hi hn)⟩
theorem Keeps.drewN {F : Nat → Prop} {a b : World} (h : Keeps F a b) (q : Nat) : Keeps F a (b.drewN q) := ⟨h.os, h.tape, h.output, h.size, h.block⟩
theorem Keeps.of_below {F : Nat → Prop} {a b : World} (h : Below a.heap.size a b) : Keeps F a b := ⟨h.os, h.tape, h.output, h.size, fun i hi _ => h.block i hi⟩
theorem Keeps.below {F : Nat → Prop} {a b : World} {B : Nat} (h : Keeps F a b) (hB : B ≤ a.heap.size) (hF : ∀ k, F k → B ≤ k) : Below B a b :=
  ⟨h.os, h.tape, h.output, h.size, fun i hi => h.block i (by omega) fun hf => by have := hF i hf; omega⟩
theorem Keeps.none {F : Nat → Prop} {a b : World} (h : Keeps F a b) (hF : ∀ k, ¬ F k) : Below a.heap.size a b :=
  h.below (Nat.le_refl _) fun k hk => absurd hk (hF k)
theorem Keeps.alloc {F : Nat → Prop} {a b : World} (h : Keeps F a b) (o : Obj) : Keeps F a (b.alloc o) :=
  h.trans (.of_below ((Below.refl _ _).alloc (Nat.le_refl _) o))
theorem Keeps.setCell {F : Nat → Prop} {a b : World} (h : Keeps F a b) (p : Addr) (u : Value) (hp : p.block < a.heap.size → F p.block) : Keeps F a (b.setCell p u) :=
  ⟨h.os, h.tape, h.output, by simpa [World.setCell] using h.size, fun i hi hn => (Below.heap_setCell _ _ _ _ (fun e => by subst e; exact hn (hp hi))).trans (h.block i hi hn)⟩
theorem Keeps.grown {F : Nat → Prop} {a b c : World} {row : Option Nat} (h : Keeps F a b) (hg : b.grownBy c row) (hr : ∀ k, row = some k → k < a.heap.size → F k) : Keeps F a c :=
  ⟨hg.os.trans h.os, hg.tape.trans h.tape, hg.output.trans h.output, Nat.le_trans h.size hg.size, fun i hi hn => (hg.block i (Nat.lt_of_lt_of_le hi h.size) fun e => hn (hr i e.symm hi)).trans (h.block i hi hn)⟩

theorem below_drewN {B : Nat} {a b : World} (h : Below B a b) (q : Nat) : Below B a (b.drewN q) := ⟨h.os, h.tape, h.output, h.size, h.block⟩
/-- A cell that is there still, whatever block is laid. -/
theorem more {w : World} {a : Addr} {v : Value} (h : w.cell? a = some v) : ∀ o, (w.alloc o).cell? a = some v := fun o => ((Below.refl _ _).alloc (Nat.le_refl _) o).cell (World.block_lt_of_cell? _ _ h) |>.trans h

/-- Contracts of callees that leave the world alone, in a region that draws its order. -/
theorem quiet_left {P : Program} {f : FuncId} {args : Array Value} {w : World} {n : Nat} {v : Value}
    (h : ∀ w, Calls P f args w fun e w' => e = .returned v ∧ w = w') : Calls P f args (w.drewN n) fun e w'' => e = .returned v ∧ ∃ m, w'' = w.drewN m :=
  (h _).mono fun _ _ ⟨he, hm⟩ => ⟨he, n, hm.symm⟩
theorem quiet_add {P : Program} {f : FuncId} {args : Array Value} {w : World} {a n : Nat} {v : Value}
    (h : ∀ w, Calls P f args w fun e w' => e = .returned v ∧ w = w') : Calls P f args (w.drewN (a + n)) fun e w'' => e = .returned v ∧ ∃ m, w'' = w.drewN (a + m) :=
  (h _).mono fun _ _ ⟨he, hm⟩ => ⟨he, n, hm.symm⟩
theorem quiet_add3 {P : Program} {f : FuncId} {args : Array Value} {w : World} {a b n : Nat} {v : Value}
    (h : ∀ w, Calls P f args w fun e w' => e = .returned v ∧ w = w') : Calls P f args (w.drewN (a + (b + n))) fun e w'' => e = .returned v ∧ ∃ m, w'' = w.drewN (a + (b + m)) :=
  (h _).mono fun _ _ ⟨he, hm⟩ => ⟨he, n, hm.symm⟩

/-- What a callee's contract leaves of what stood there. -/
theorem bcell {W w1 : World} (hb : Below W.heap.size W w1) : (∀ b o, b < W.heap.size → w1.cell? ⟨b, o, none⟩ = W.cell? ⟨b, o, none⟩) ∧ (∀ b o, b < W.heap.size → w1.frozen? ⟨b, o, none⟩ = W.frozen? ⟨b, o, none⟩) :=
  ⟨fun b o h => hb.cell (p := ⟨b, o, none⟩) h, fun b o h => hb.frozen (p := ⟨b, o, none⟩) h⟩

/-- A block that is known whole. -/
def Blk (w : World) (b : Nat) (cs : Array Value) (t : TypeId) : Prop := w.heap[b]? = some (.cells cs t (0, 0))
theorem Blk.lt {w : World} {b : Nat} {cs : Array Value} {t : TypeId} (h : Blk w b cs t) : b < w.heap.size := (Array.getElem?_eq_some_iff.1 h).1
theorem Blk.cell {w : World} {b : Nat} {cs : Array Value} {t : TypeId} (h : Blk w b cs t) (k : Nat) (v : Value) (hv : cs[k]? = some v) : w.cell? ⟨b, k, none⟩ = some v := by
  unfold Blk at h
  simp [World.cell?, h, hv]
theorem Blk.free {w : World} {b : Nat} {cs : Array Value} {t : TypeId} (h : Blk w b cs t) (k : Nat) : w.frozen? ⟨b, k, none⟩ = false := by
  unfold Blk at h
  simp [World.frozen?, h]
theorem Blk.new (w : World) (cs : Array Value) (t : TypeId) : Blk (w.alloc (.cells cs t)) w.heap.size cs t := heap_alloc_new w _
theorem Blk.keeps {F : Nat → Prop} {w w' : World} {b : Nat} {cs : Array Value} {t : TypeId} (h : Blk w b cs t) (hk : Keeps F w w') (hb : ¬ F b) : Blk w' b cs t := (hk.block b h.lt hb).trans h
theorem Blk.below {w w' : World} {b : Nat} {cs : Array Value} {t : TypeId} (h : Blk w b cs t) (hk : Below w.heap.size w w') : Blk w' b cs t := (hk.block b h.lt).trans h
theorem Blk.alloc {w : World} {b : Nat} {cs : Array Value} {t : TypeId} (h : Blk w b cs t) (o : Obj) : Blk (w.alloc o) b cs t := h.below ((Below.refl _ _).alloc (Nat.le_refl _) o)
theorem Blk.drewN {w : World} {b : Nat} {cs : Array Value} {t : TypeId} (h : Blk w b cs t) (q : Nat) : Blk (w.drewN q) b cs t := h
theorem Blk.set {w : World} {b : Nat} {cs : Array Value} {t : TypeId} (h : Blk w b cs t) (k : Nat) (v : Value) : Blk (w.setCell ⟨b, k, none⟩ v) b (cs.setIfInBounds k v) t := by
  unfold Blk at *
  simp [World.setCell, Array.getElem?_modify, h]
theorem Blk.setOther {w : World} {b : Nat} {cs : Array Value} {t : TypeId} (h : Blk w b cs t) (p : Addr) (v : Value) (hp : p.block ≠ b) : Blk (w.setCell p v) b cs t :=
  (Below.heap_setCell w p v b (fun e => hp e.symm)).trans h

/-- Blocks that were laid one after the other, behind a call that left them as they were. -/
theorem one_new {w w2 : World} {a : Array Value} {s : TypeId} (hb : Below (w.alloc (.cells a s)).heap.size (w.alloc (.cells a s)) w2) : Blk w2 w.heap.size a s := (Blk.new w a s).below hb
theorem two_new {w w2 : World} {a b : Array Value} {s t : TypeId} (hb : Below ((w.alloc (.cells a s)).alloc (.cells b t)).heap.size ((w.alloc (.cells a s)).alloc (.cells b t)) w2) : Blk w2 w.heap.size a s ∧ Blk w2 (w.heap.size + 1) b t := by
  have := (Blk.new (w.alloc (.cells a s)) b t).below hb
  exact ⟨((Blk.new w a s).alloc _).below hb, by simpa using this⟩
theorem three_new {w w2 : World} {a b c : Array Value} {s t u : TypeId} (hb : Below (((w.alloc (.cells a s)).alloc (.cells b t)).alloc (.cells c u)).heap.size (((w.alloc (.cells a s)).alloc (.cells b t)).alloc (.cells c u)) w2) :
    Blk w2 w.heap.size a s ∧ Blk w2 (w.heap.size + 1) b t ∧ Blk w2 (w.heap.size + 1 + 1) c u := by
  have h2 := ((Blk.new (w.alloc (.cells a s)) b t).alloc (.cells c u)).below hb
  have h3 := (Blk.new ((w.alloc (.cells a s)).alloc (.cells b t)) c u).below hb
  exact ⟨(((Blk.new w a s).alloc _).alloc _).below hb, by simpa using h2, by simpa using h3⟩
theorem Blk.two {w : World} {g : Nat} {a b : Value} {t : TypeId} (h : Blk w g #[a, b] t) : w.cell? ⟨g, 0, none⟩ = some a ∧ w.cell? ⟨g, 1, none⟩ = some b ∧ w.frozen? ⟨g, 0, none⟩ = false ∧ w.frozen? ⟨g, 1, none⟩ = false :=
  ⟨h.cell 0 _ rfl, h.cell 1 _ rfl, h.free 0, h.free 1⟩
theorem Blk.four {w : World} {g : Nat} {a b c d : Value} {t : TypeId} (h : Blk w g #[a, b, c, d] t) : w.cell? ⟨g, 0, none⟩ = some a ∧ w.cell? ⟨g, 1, none⟩ = some b ∧ w.cell? ⟨g, 2, none⟩ = some c ∧ w.cell? ⟨g, 3, none⟩ = some d :=
  ⟨h.cell 0 _ rfl, h.cell 1 _ rfl, h.cell 2 _ rfl, h.cell 3 _ rfl⟩

/-- What stands at the head of a block that belongs to a slice. -/
def Row (w : World) (g : Nat) (xs : List Value) : Prop := ∃ cur t, w.heap[g]? = some (.cells cur t (0, 0)) ∧ xs.length ≤ cur.size ∧ cur.toList.take xs.length = xs
theorem Row.lt {w : World} {g : Nat} {xs : List Value} (h : Row w g xs) : g < w.heap.size := by
  obtain ⟨cur, t, h1, _⟩ := h
  exact (Array.getElem?_eq_some_iff.1 h1).1
theorem Row.cell {w : World} {g : Nat} {xs : List Value} (h : Row w g xs) (k : Nat) (v : Value) (hv : xs[k]? = some v) : w.cell? ⟨g, k, none⟩ = some v := by
  obtain ⟨cur, t, h1, h2, h3⟩ := h
  have hk : k < xs.length := (List.getElem?_eq_some_iff.1 hv).1
  rw [← h3, List.getElem?_take, if_pos hk] at hv
  simp only [World.cell?, h1]
  simpa using hv
theorem Row.free {w : World} {g : Nat} {xs : List Value} (h : Row w g xs) (k : Nat) : w.frozen? ⟨g, k, none⟩ = false := by
  obtain ⟨cur, t, h1, _⟩ := h
  simp [World.frozen?, h1]
theorem Row.keeps {F : Nat → Prop} {w w' : World} {g : Nat} {xs : List Value} (h : Row w g xs) (hk : Keeps F w w') (hb : ¬ F g) : Row w' g xs := by
  have hlt := h.lt
  obtain ⟨cur, t, h1, h2⟩ := h
  exact ⟨cur, t, (hk.block g hlt hb).trans h1, h2⟩
theorem Row.below {w w' : World} {g : Nat} {xs : List Value} (h : Row w g xs) (hk : Below w.heap.size w w') : Row w' g xs :=
  h.keeps (F := fun _ => False) (.of_below hk) (fun h => h)
theorem Row.set {w : World} {g : Nat} {xs : List Value} (h : Row w g xs) (k : Nat) (v : Value) : Row (w.setCell ⟨g, k, none⟩ v) g (xs.set k v) := by
  obtain ⟨cur, t, h1, h2, h3⟩ := h
  refine ⟨cur.setIfInBounds k v, t, ?_, by simpa using h2, ?_⟩
  · simp [World.setCell, Array.getElem?_modify, h1]
  · rw [List.length_set, Array.toList_setIfInBounds, List.take_set, h3]
theorem Row.setOther {w : World} {g : Nat} {xs : List Value} (h : Row w g xs) (p : Addr) (v : Value) (hp : p.block ≠ g) : Row (w.setCell p v) g xs := by
  obtain ⟨cur, t, h1, h2⟩ := h
  exact ⟨cur, t, (Below.heap_setCell w p v g (fun e => hp e.symm)).trans h1, h2⟩
theorem Row.of_owns {w : World} {base : Nat} {e : TypeId} {size n c g : Nat} {xs : List Value} (h : w.ownsRow base e size (.slice (some ⟨g, 0, none⟩) n c) n xs) : Row w g xs := by
  obtain ⟨hl, ⟨hv, _⟩ | ⟨g', cap, cur, hv, _, hg, hc, _, hs, ht⟩⟩ := h
  · cases hv
  · cases hv
    refine ⟨cur, e, hg, ?_, by rw [hl]; exact ht⟩
    rw [hl, hs]
    exact Nat.mul_le_mul_right _ hc

/-- An owned row stays where its block is kept. -/
theorem owns_keeps {F : Nat → Prop} {w w' : World} {base : Nat} {e : TypeId} {size : Nat} {v : Value} {n : Nat} {xs : List Value} (h : w.ownsRow base e size v n xs) (hk : Keeps F w w') (hb : ∀ k, v.ownBlock = some k → ¬ F k) : w'.ownsRow base e size v n xs := by
  refine ⟨h.1, ?_⟩
  rcases h.2 with h0 | ⟨g, cap, cur, hv, hbg, hg, rest⟩
  · exact .inl h0
  · exact .inr ⟨g, cap, cur, hv, hbg, (hk.block g (Array.getElem?_eq_some_iff.1 hg).1 (hb g (by rw [hv]; rfl))).trans hg, rest⟩
theorem owns_below {w w' : World} {base : Nat} {e : TypeId} {size : Nat} {v : Value} {n : Nat} {xs : List Value} (h : w.ownsRow base e size v n xs) (hb : Below w.heap.size w w') : w'.ownsRow base e size v n xs :=
  owns_keeps (F := fun _ => False) h (.of_below hb) fun _ _ => id
theorem owns_set {w : World} {base : Nat} {e : TypeId} {size n c g : Nat} {xs : List Value} (h : w.ownsRow base e size (.slice (some ⟨g, 0, none⟩) n c) n xs) (k : Nat) (v : Value) :
    (w.setCell ⟨g, k, none⟩ v).ownsRow base e size (.slice (some ⟨g, 0, none⟩) n c) n (xs.set k v) := by
  obtain ⟨hl, ⟨hv, _⟩ | ⟨g', cap, cur, hv, hb, hg, hc, hm, hs, ht⟩⟩ := h
  · cases hv
  · cases hv
    refine ⟨by simpa using hl, .inr ⟨g, c, cur.setIfInBounds k v, rfl, hb, ?_, hc, hm, by simpa using hs, ?_⟩⟩
    · simp [World.setCell, Array.getElem?_modify, hg]
    · rw [Array.toList_setIfInBounds, List.take_set, ht]
end Go.Proofs.YtlibdhnlmekmhaaGreatDoor.Own
end

/- A map from names to numbers in memory, by the function that it is. -/
section
namespace Go
/-- A store into a map, as one step of a region that draws. -/
theorem step_mapUpdate {P : Program} {ops : Array Oper} {o : Oper} {a : Act} {w : World} {K : Act → World → Prop} {Q : Exit → Act → World → Prop} {E : Prop}
    (hg : o.guard = none) (m x v : Operand) (t : TypeId) (hop : o.op = Op.mapUpdate t m x v) (mv key val : Value) (hm : a.eval m = mv) (hx : a.eval x = key) (hv : a.eval v = val) (w' : World)
    (hrun : (Instr.mapUpdate t mv key val).run P w = .ok () w') (hK : K (a.put o.dst undef) w') :
    if Region.wanted o (yielded ops a.tmps) = true then Oper.wp P o a w K Q else E := by
  have hw : Region.wanted o (yielded ops a.tmps) = true := by simp [Region.wanted, hg]
  rw [if_pos hw]
  unfold Oper.wp
  simp [execOp, hop, hm, hx, hv, hrun, Result.andThen]
  exact hK
end Go
namespace Go.Proofs.YtlibdhnlmekmhaaGreatDoor.Nt
open Go.RowKit Go.Maps Go.WideMaps
open Go.Proofs.YtlibdhnlmekmhaaGreatDoor.Own

theorem law : Keyed Tryz.prog 9 := string_keyed Tryz.underlying9
theorem zeroInt (w : World) : (zeroValue 3).run Tryz.prog w = .ok (.int .i64 0) w := by kernel_rfl

/-- What a name reads as. -/
abbrev kl (s : ByteArray) : Lit := .string s.data.toList
theorem kl_inj {s u : ByteArray} (h : kl s = kl u) : s = u := by
  have h1 : s.data.toList = u.data.toList := by simpa using h
  have h2 : s.data = u.data := by
    rw [← Array.toArray_toList (xs := s.data), ← Array.toArray_toList (xs := u.data), h1]
  cases s; cases u; simp_all

def upd (F : ByteArray → Option Nat) (s : ByteArray) (n : Nat) : ByteArray → Option Nat := fun u => if u = s then some n else F u

/-- Block b is a map of at most n names that is the function F. -/
def MapIs (w : World) (b : Nat) (F : ByteArray → Option Nat) (n : Nat) : Prop :=
  ∃ D : DataW Unit, w.ownsMap Tryz.prog 9 (plainElem Tryz.prog 3) b n D ∧ (∀ s, Maps.has D (kl s) = (F s).isSome) ∧ ∀ s, D.atKey (kl s) (.lit (.int .i64 0)) = .lit (.int .i64 (((F s).getD 0 : Nat) : Int))

theorem MapIs.lt {w : World} {b n : Nat} {F : ByteArray → Option Nat} (h : MapIs w b F n) : b < w.heap.size := by
  obtain ⟨D, h, _⟩ := h
  exact h.lt
theorem MapIs.mono {w : World} {b n m : Nat} {F : ByteArray → Option Nat} (h : MapIs w b F n) (hm : n ≤ m) : MapIs w b F m := by
  obtain ⟨D, h, r⟩ := h
  exact ⟨D, h.mono hm, r⟩
theorem MapIs.keeps {G : Nat → Prop} {w w' : World} {b n : Nat} {F : ByteArray → Option Nat} (h : MapIs w b F n) (hk : Keeps G w w') (hb : ¬ G b) : MapIs w' b F n := by
  have hlt := h.lt
  obtain ⟨D, ⟨es, clock, h1, r⟩, r2⟩ := h
  exact ⟨D, ⟨es, clock, (hk.block b hlt hb).trans h1, r⟩, r2⟩
theorem MapIs.made (w : World) : MapIs (w.alloc (.map #[] 0)) w.heap.size (fun _ => none) 0 :=
  ⟨_, World.ownsMap_made w _ _ _, fun _ => rfl, fun _ => rfl⟩

/-- 'v, ok := m[s]'. -/
theorem MapIs.look {w : World} {b n : Nat} {F : ByteArray → Option Nat} (h : MapIs w b F n) (s : ByteArray) (hs : s.size ≤ maxLen) :
    (Instr.lookup 107 (.map (some b)) (.string s) true).run Tryz.prog w = .ok (.tuple #[.int .i64 (((F s).getD 0 : Nat) : Int), .bool (F s).isSome]) w := by
  obtain ⟨D, ho, h1, h2⟩ := h
  obtain ⟨v, ps, hrun, hv⟩ := ho.look_ok law Tryz.underlying107 (zeroInt w) (plainElem_int Tryz.underlying3 (by decide)) (keyOf_string_mk Tryz.underlying9 hs)
  obtain ⟨c, rfl, hc, _⟩ := plainElem_int_inv Tryz.underlying3 hv
  have hc1 := congrArg Prod.fst hc
  simp only at hc1
  rw [h2 s] at hc1
  simp only [DataW.lit.injEq, Lit.int.injEq, true_and] at hc1
  rw [hrun, h1 s, hc1]
/-- 'm[s] = k'. -/
theorem MapIs.store {w : World} {b n : Nat} {F : ByteArray → Option Nat} (h : MapIs w b F n) (hn : n < maxLen) (s : ByteArray) (hs : s.size ≤ maxLen) (k : Nat) (hk : k ≤ 9223372036854775807) :
    ∃ w', (Instr.mapUpdate 107 (.map (some b)) (.string s) (.int .i64 (k : Int))).run Tryz.prog w = .ok () w' ∧ MapIs w' b (upd F s k) (n + 1) ∧ w.grownBy w' (some b) := by
  obtain ⟨D, ho, h1, h2⟩ := h
  have hwf : (Lit.int .i64 (k : Int)).wf = true := by
    have hmin : IntKind.i64.min = -9223372036854775808 := rfl
    simp [Lit.wf]
    omega
  obtain ⟨w', hrun, ho', hg⟩ := ho.update law Tryz.underlying107 hn (keyOf_string_mk Tryz.underlying9 hs) (plainElem_int Tryz.underlying3 hwf)
  have hkey : WideAt.IsKeyLit (kl s) := trivial
  refine ⟨w', hrun, ⟨_, ho', fun u => ?_, fun u => ?_⟩, hg⟩
  · by_cases e : u = s
    · subst e
      rw [has_put_same ho.isMap hkey]
      simp [upd]
    · rw [has_put_other (fun h => e (kl_inj h)), h1 u]
      simp [upd, e]
  · by_cases e : u = s
    · subst e
      rw [atKey_put_same ho.isMap hkey]
      simp [upd]
    · rw [atKey_put_other (fun h => e (kl_inj h)), h2 u]
      simp [upd, e]
theorem keeps_of_grown {w w' : World} {b : Nat} (h : w.grownBy w' (some b)) : Keeps (fun k => k = b) w w' :=
  ⟨h.os, h.tape, h.output, h.size, fun k hk hn => h.block k hk (fun e => hn (by simpa using e))⟩
end Go.Proofs.YtlibdhnlmekmhaaGreatDoor.Nt
end

/- Symbol tables: what they hold, and how they lie in memory. -/
section
namespace Go.Proofs.YtlibdhnlmekmhaaGreatDoor.Nt
open Go.RowKit
open Go.Proofs.YtlibdhnlmekmhaaGreatDoor.Own Go.Proofs.YtlibdhnlmekmhaaGreatDoor.Nt

abbrev Wd := Int × Int
/-- A symbol. -/
structure Sy where
  name : ByteArray
  fn : Wd
  has : Bool
  props : List (Int × Wd)
/-- A table: its symbols by their numbers, and which are found by a name. -/
structure Tb where
  syms : List Sy
  find : ByteArray → Option Nat

/-- What a block of a table is for. -/
inductive TLab where
  | hdr
  | syms
  | map
  | props (n : Nat)

abbrev wdv (w : Wd) : Value := .agg #[.int .i64 w.1, .int .i64 w.2]
/-- A symbol in memory, p its slice of properties. -/
def syCells (s : Sy) (p : Value) : List Value := [.string s.name, .int .i64 s.fn.1, .int .i64 s.fn.2, .bool s.has, p]
def scells : List Sy → (Nat → Value) → Nat → List Value
  | [], _, _ => []
  | s :: l, ps, k => syCells s (ps k) ++ scells l ps (k + 1)
def pcells : List (Int × Wd) → List Value
  | [] => []
  | x :: l => .int .i64 x.1 :: .int .i64 x.2.1 :: .int .i64 x.2.2 :: pcells l

theorem scells_length (l : List Sy) (ps : Nat → Value) (k : Nat) : (scells l ps k).length = l.length * 5 := by
  induction l generalizing k with
  | nil => rfl
  | cons s l ih => simp only [scells, List.length_append, ih, List.length_cons, syCells, List.length_nil]; omega
theorem scells_append (l : List Sy) (s : Sy) (ps : Nat → Value) (k : Nat) : scells (l ++ [s]) ps k = scells l ps k ++ syCells s (ps (k + l.length)) := by
  induction l generalizing k with
  | nil => simp [scells]
  | cons x l ih => simp only [List.cons_append, scells, ih, List.append_assoc, List.length_cons]; rw [show k + 1 + l.length = k + (l.length + 1) by omega]
theorem scells_get (l : List Sy) (ps : Nat → Value) (k j : Nat) : (scells l ps k)[j]? = (l[j / 5]?).bind fun s => (syCells s (ps (k + j / 5)))[j % 5]? := by
  induction l generalizing k j with
  | nil => simp [scells]
  | cons s l ih =>
    rw [scells]
    by_cases h : j < 5
    · rw [List.getElem?_append_left (by simp [syCells]; omega), show j / 5 = 0 by omega, show j % 5 = j by omega]
      simp
    · have hl : (syCells s (ps k)).length = 5 := rfl
      rw [List.getElem?_append_right (by rw [hl]; omega), hl, ih, show j / 5 = (j - 5) / 5 + 1 by omega, show j % 5 = (j - 5) % 5 by omega, List.getElem?_cons_succ, show k + 1 + (j - 5) / 5 = k + ((j - 5) / 5 + 1) by omega]
theorem scells_at (l : List Sy) (ps : Nat → Value) (i : Nat) (s : Sy) (h : l[i]? = some s) (j : Nat) (hj : j < 5) : (scells l ps 0)[i * 5 + j]? = (syCells s (ps i))[j]? := by
  rw [scells_get, show (i * 5 + j) / 5 = i by omega, show (i * 5 + j) % 5 = j by omega, h]
  simp
theorem scells_congr (l : List Sy) (ps qs : Nat → Value) (k : Nat) (h : ∀ i, i < l.length → ps (k + i) = qs (k + i)) : scells l ps k = scells l qs k := by
  induction l generalizing k with
  | nil => rfl
  | cons s l ih =>
    rw [scells, scells, ih (k + 1) fun i hi => by rw [show k + 1 + i = k + (i + 1) by omega]; exact h (i + 1) (by simp; omega), show ps k = qs k from h 0 (by simp)]
theorem pcells_length (l : List (Int × Wd)) : (pcells l).length = l.length * 3 := by
  induction l with
  | nil => rfl
  | cons x l ih => simp only [pcells, List.length_cons, ih]; omega
theorem pcells_append (a b : List (Int × Wd)) : pcells (a ++ b) = pcells a ++ pcells b := by
  induction a with
  | nil => rfl
  | cons x l ih => simp [pcells, ih]
theorem syCells_one (s : Sy) (A : Option Addr) (n c : Nat) : ∀ u ∈ syCells s (.slice A n c), u.oneCell' = true := by
  intro u hu
  simp [syCells] at hu
  rcases hu with rfl | rfl | rfl | rfl | rfl <;> rfl
theorem pcells_one (l : List (Int × Wd)) : ∀ u ∈ pcells l, u.oneCell' = true := by
  induction l with
  | nil => simp [pcells]
  | cons x l ih =>
    intro u hu
    simp only [pcells, List.mem_cons] at hu
    rcases hu with rfl | rfl | rfl | hu
    · rfl
    · rfl
    · rfl
    · exact ih u hu

/-- The parts of a table: the slice of its symbols, the block of its map, the slices of properties. -/
structure TParts where
  sv : Value
  mb : Nat
  ps : Nat → Value

/-- Keys in ascending order, each once. -/
def Asc (l : List (Int × Wd)) : Prop := l.Pairwise fun x y => x.1 < y.1

/-- A table in memory. -/
structure TabIs (w : World) (base tp : Nat) (t : Tb) (lab : Nat → Option TLab) (P : TParts) : Prop where
  inb : ∀ b l, lab b = some l → base ≤ b ∧ b < w.heap.size
  hdr : lab tp = some .hdr
  blk : Blk w tp #[P.sv, .map (some P.mb)] 109
  mlab : lab P.mb = some .map
  map : MapIs w P.mb t.find t.syms.length
  syms : w.ownsRow base 187 5 P.sv t.syms.length (scells t.syms P.ps 0)
  slab : ∀ k, P.sv.ownBlock = some k → lab k = some .syms
  props : ∀ (i : Nat) (s : Sy), t.syms[i]? = some s → w.ownsRow base 285 3 (P.ps i) s.props.length (pcells s.props)
  plab : ∀ i k, (P.ps i).ownBlock = some k → lab k = some (.props i)
  tail : ∀ i, t.syms.length ≤ i → P.ps i = .slice none 0 0
  many : t.syms.length ≤ 16384
  pmany : ∀ (i : Nat) (s : Sy), t.syms[i]? = some s → s.props.length ≤ 16384
  small : ∀ (i : Nat) (s : Sy), t.syms[i]? = some s → s.name.size ≤ 4611686018427387904
  found : ∀ s (n : Nat), t.find s = some n → ∃ y : Sy, t.syms[n]? = some y ∧ y.name = s
  sorted : ∀ (i : Nat) (s : Sy), t.syms[i]? = some s → Asc s.props

def TOf (lab : Nat → Option TLab) (b : Nat) : Prop := lab b ≠ none

theorem TabIs.keeps {F : Nat → Prop} {w w' : World} {base tp : Nat} {t : Tb} {lab : Nat → Option TLab} {P : TParts} (h : TabIs w base tp t lab P) (hk : Keeps F w w') (hF : ∀ b, F b → lab b = none) : TabIs w' base tp t lab P := by
  have hn : ∀ g k, lab g = some k → ¬ F g := fun g k hg hf => by rw [hF g hf] at hg; cases hg
  exact { h with
    inb := fun b l hb => ⟨(h.inb b l hb).1, Nat.lt_of_lt_of_le (h.inb b l hb).2 hk.size⟩
    blk := h.blk.keeps hk (hn _ _ h.hdr)
    map := h.map.keeps hk (hn _ _ h.mlab)
    syms := owns_keeps h.syms hk fun k hv => hn _ _ (h.slab k hv)
    props := fun i s hs => owns_keeps (h.props i s hs) hk fun k hv => hn _ _ (h.plab i k hv) }
theorem TabIs.below {w w' : World} {base tp : Nat} {t : Tb} {lab : Nat → Option TLab} {P : TParts} (h : TabIs w base tp t lab P) (hk : Below w.heap.size w w') : TabIs w' base tp t lab P :=
  h.keeps (F := fun _ => False) (.of_below hk) fun _ hf => hf.elim
theorem TabIs.drewN {w : World} {base tp : Nat} {t : Tb} {lab : Nat → Option TLab} {P : TParts} (h : TabIs w base tp t lab P) (q : Nat) : TabIs (w.drewN q) base tp t lab P :=
  h.below ⟨rfl, rfl, rfl, Nat.le_refl _, fun _ _ => rfl⟩

/-- What a change of a table leaves. -/
structure TAfter (w w' : World) (lab lab' : Nat → Option TLab) : Prop where
  keeps : Keeps (TOf lab) w w'
  grow : ∀ b, TOf lab' b → TOf lab b ∨ w.heap.size ≤ b
theorem TAfter.refl (w : World) (lab : Nat → Option TLab) : TAfter w w lab lab := ⟨.refl _ _, fun _ h => .inl h⟩
theorem TAfter.below {w w' : World} {lab : Nat → Option TLab} (h : Below w.heap.size w w') : TAfter w w' lab lab := ⟨.of_below h, fun _ h => .inl h⟩
theorem TAfter.trans {w w1 w2 : World} {lab lab1 lab2 : Nat → Option TLab} (h : TAfter w w1 lab lab1) (k : TAfter w1 w2 lab1 lab2) : TAfter w w2 lab lab2 := by
  refine ⟨h.keeps.then k.keeps fun b hb hf => ?_, fun b hb => ?_⟩
  · rcases h.grow b hf with e | e
    · exact e
    · omega
  · rcases k.grow b hb with e | e
    · exact h.grow b e
    · exact .inr (Nat.le_trans h.keeps.size e)
theorem TAfter.bel {w w' : World} {base tp : Nat} {t : Tb} {lab lab' : Nat → Option TLab} {P : TParts} (h : TabIs w base tp t lab P) (hb : base ≤ w.heap.size) (ha : TAfter w w' lab lab') : Below base w w' :=
  ha.keeps.below hb fun k hk => by
    cases hh : lab k with
    | none => exact absurd hh hk
    | some l => exact (h.inb k l hh).1
def TabOk (w w' : World) (base tp : Nat) (t' : Tb) (lab : Nat → Option TLab) : Prop := ∃ lab' P', TabIs w' base tp t' lab' P' ∧ TAfter w w' lab lab'
theorem TabIs.fresh {w : World} {base tp b : Nat} {t : Tb} {lab : Nat → Option TLab} {P : TParts} (h : TabIs w base tp t lab P) (hb : w.heap.size ≤ b) : lab b = Option.none := by
  cases hh : lab b with
  | none => rfl
  | some l => have := (h.inb b l hh).2; omega
end Go.Proofs.YtlibdhnlmekmhaaGreatDoor.Nt
end

/- The contracts of the methods of a table that only read it: valid, symbol, Find, Name, Many, Interned. -/
section
namespace Go.Proofs.YtlibdhnlmekmhaaGreatDoor.Nt
set_option maxRecDepth 100000
open Go.RowKit
open Go.Proofs.YtlibdhnlmekmhaaGreatDoor.Own Go.Proofs.YtlibdhnlmekmhaaGreatDoor.Nt Go.Proofs.YtlibdhnlmekmhaaGreatDoor.Nt

abbrev tptr (tp : Nat) : Value := .pointer (some ⟨tp, 0, none⟩)
theorem map_neq_nil (b : Nat) (w : World) : (binOp .neq 107 (.map (some b)) (.map none)).run Tryz.prog w = .ok (.bool true) w := by kernel_rfl

theorem valid_null (w : World) : Calls Tryz.prog 75 #[.pointer none] w fun e w' => e = .returned (.bool false) ∧ w = w' := by
  go_enter Tryz.func75, Tryz.ntmps75
  go_wp2
  go_ret
  exact ⟨rfl, rfl⟩
theorem valid_core (tp mb : Nat) (w : World) (c : w.cell? ⟨tp, 1, none⟩ = some (.map (some mb))) : Calls Tryz.prog 75 #[tptr tp] w fun e w' => e = .returned (.bool true) ∧ w = w' := by
  have hn := map_neq_nil mb
  go_enter Tryz.func75, Tryz.ntmps75
  go_wp2
  go_ret
  exact ⟨rfl, rfl⟩

/-- The symbol of a number. -/
def symO (t : Tb) (i : Int) : Option Sy := if i < 0 then none else t.syms[i.toNat]?
theorem symO_nat (t : Tb) (k : Nat) : symO t (k : Int) = t.syms[k]? := by
  unfold symO
  rw [if_neg (by omega)]
  rfl
theorem symO_some {t : Tb} {i : Int} {s : Sy} (h : symO t i = some s) : ∃ k : Nat, i = (k : Int) ∧ k < t.syms.length ∧ t.syms[k]? = some s := by
  unfold symO at h
  split at h
  · cases h
  · exact ⟨i.toNat, by omega, (List.getElem?_eq_some_iff.1 h).1, h⟩
theorem symO_none {t : Tb} {i : Int} (h : symO t i = none) : i < 0 ∨ (t.syms.length : Int) ≤ i := by
  unfold symO at h
  split at h
  · left; omega
  · right
    rw [List.getElem?_eq_none_iff] at h
    omega

/-- The two cells of a table's header. -/
theorem TabIs.two {w : World} {base tp : Nat} {t : Tb} {lab : Nat → Option TLab} {P : TParts} (h : TabIs w base tp t lab P) : w.cell? ⟨tp, 0, none⟩ = some P.sv ∧ w.cell? ⟨tp, 1, none⟩ = some (.map (some P.mb)) :=
  ⟨h.blk.cell 0 _ rfl, h.blk.cell 1 _ rfl⟩
theorem TabIs.valid {w : World} {base tp : Nat} {t : Tb} {lab : Nat → Option TLab} {P : TParts} (h : TabIs w base tp t lab P) : Calls Tryz.prog 75 #[tptr tp] w fun e w' => e = .returned (.bool true) ∧ w = w' :=
  valid_core tp P.mb w h.two.2
/-- Where the symbols lie, if there is one. -/
theorem TabIs.row {w : World} {base tp : Nat} {t : Tb} {lab : Nat → Option TLab} {P : TParts} (h : TabIs w base tp t lab P) (hn : 0 < t.syms.length) : ∃ g cap, P.sv = .slice (some ⟨g, 0, none⟩) t.syms.length cap ∧ t.syms.length ≤ cap ∧ cap ≤ maxLen := by
  rcases h.syms.2 with ⟨_, h0⟩ | ⟨g, cap, cur, hv, _, _, h1, h2, _⟩
  · omega
  · exact ⟨g, cap, hv, h1, h2⟩
theorem TabIs.sl {w : World} {base tp : Nat} {t : Tb} {lab : Nat → Option TLab} {P : TParts} (h : TabIs w base tp t lab P) : ∃ A cap, P.sv = .slice A t.syms.length cap := by
  rcases h.syms.2 with ⟨h1, h0⟩ | ⟨g, cap, cur, hv, _⟩
  · exact ⟨none, 0, by rw [h1, h0]⟩
  · exact ⟨_, _, hv⟩
/-- Where a symbol lies. -/
theorem TabIs.symRow {w : World} {base tp : Nat} {t : Tb} {lab : Nat → Option TLab} {P : TParts} (h : TabIs w base tp t lab P) (k : Nat) (s : Sy) (hs : t.syms[k]? = some s) :
    ∃ g cap, P.sv = .slice (some ⟨g, 0, none⟩) t.syms.length cap ∧ lab g = some .syms ∧ Row w g (scells t.syms P.ps 0) := by
  have hk : k < t.syms.length := (List.getElem?_eq_some_iff.1 hs).1
  obtain ⟨g, cap, hv, _⟩ := h.row (by omega)
  have ho := h.syms
  rw [hv] at ho
  exact ⟨g, cap, hv, h.slab g (by rw [hv]; rfl), Row.of_owns ho⟩
/-- The cells of a symbol. -/
theorem sy_cells {w : World} {g : Nat} {l : List Sy} {ps : Nat → Value} (h : Row w g (scells l ps 0)) (k : Nat) (s : Sy) (hs : l[k]? = some s) :
    w.cell? ⟨g, k * 5, none⟩ = some (.string s.name) ∧ w.cell? ⟨g, k * 5 + 1, none⟩ = some (.int .i64 s.fn.1) ∧ w.cell? ⟨g, k * 5 + 2, none⟩ = some (.int .i64 s.fn.2) ∧ w.cell? ⟨g, k * 5 + 3, none⟩ = some (.bool s.has) ∧ w.cell? ⟨g, k * 5 + 4, none⟩ = some (ps k) :=
  ⟨h.cell _ _ (scells_at l ps k s hs 0 (by omega)), h.cell _ _ (scells_at l ps k s hs 1 (by omega)), h.cell _ _ (scells_at l ps k s hs 2 (by omega)), h.cell _ _ (scells_at l ps k s hs 3 (by omega)), h.cell _ _ (scells_at l ps k s hs 4 (by omega))⟩

theorem many_core (tp mb n cap : Nat) (A : Option Addr) (w : World) (c0 : w.cell? ⟨tp, 0, none⟩ = some (.slice A n cap)) (c1 : w.cell? ⟨tp, 1, none⟩ = some (.map (some mb))) :
    Calls Tryz.prog 26 #[tptr tp] w fun e w' => e = .returned (.int .i64 (n : Int)) ∧ w = w' := by
  have HV := Lib.hid (valid_core tp mb w c1)
  clear c1
  go_enter Tryz.func26, Tryz.ntmps26
  go_wp2_with (go_at_call 75; refine HV.out.mono ?_; rintro e w' ⟨rfl, rfl⟩)
  go_ret
  exact ⟨rfl, rfl⟩
theorem many_any {w : World} {base tp : Nat} {t : Tb} {lab : Nat → Option TLab} {P : TParts} (h : TabIs w base tp t lab P) : Calls Tryz.prog 26 #[tptr tp] w fun e w' => e = .returned (.int .i64 (t.syms.length : Int)) ∧ w = w' := by
  obtain ⟨A, cap, hv⟩ := h.sl
  have h2 := h.two
  rw [hv] at h2
  exact many_core tp P.mb _ cap A w h2.1 h2.2
theorem many_null (w : World) : Calls Tryz.prog 26 #[.pointer none] w fun e w' => e = .returned (.int .i64 0) ∧ w = w' := by
  have HV := Lib.hid valid_null
  go_enter Tryz.func26, Tryz.ntmps26
  go_wp2_with (go_at_call 75; refine (HV.out _).mono ?_; rintro e w' ⟨rfl, rfl⟩)
  go_ret
  exact ⟨rfl, rfl⟩

set_option maxHeartbeats 1000000 in
theorem find_any {w : World} {base tp : Nat} {t : Tb} {lab : Nat → Option TLab} {P : TParts} (h : TabIs w base tp t lab P) (s : ByteArray) (hs : s.size ≤ maxLen) :
    Calls Tryz.prog 186 #[tptr tp, .string s] w fun e w' => e = .returned (.tuple #[.int .i64 (((t.find s).getD 0 : Nat) : Int), .bool (t.find s).isSome]) ∧ w = w' := by
  have HV := Lib.hid h.valid
  have hl := h.map.look s hs
  have c1 := h.two.2
  generalize ((t.find s).getD 0 : Nat) = n at *
  generalize (t.find s).isSome = b at *
  clear h
  go_enter Tryz.func186, Tryz.ntmps186
  go_wp2_with (go_at_call 75; refine HV.out.mono ?_; rintro e w' ⟨rfl, rfl⟩)
  go_ret2
  exact ⟨rfl, rfl⟩
theorem find_null (s : ByteArray) (w : World) : Calls Tryz.prog 186 #[.pointer none, .string s] w fun e w' => e = .returned (.tuple #[.int .i64 0, .bool false]) ∧ w = w' := by
  have HV := Lib.hid valid_null
  go_enter Tryz.func186, Tryz.ntmps186
  go_wp2_with (go_at_call 75; refine (HV.out _).mono ?_; rintro e w' ⟨rfl, rfl⟩)
  go_ret2
  exact ⟨rfl, rfl⟩

/-- What Name returns. -/
def nameO (t : Tb) (i : Int) : ByteArray × Bool := match symO t i with | some s => (s.name, true) | none => (⟨#[]⟩, false)
/-- What Interned returns. -/
def internedO (t : Tb) (i : Int) : Bool := match symO t i with | some s => (match t.find s.name with | some n => (n : Int) == i | none => false) | none => false
end Go.Proofs.YtlibdhnlmekmhaaGreatDoor.Nt
end
