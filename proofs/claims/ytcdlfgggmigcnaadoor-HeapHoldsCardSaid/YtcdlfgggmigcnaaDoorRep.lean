/- How a heap of package heap lies in memory. -/
import Derived.Test.YtcdlfgggmigcnaaDoorOwn
import Derived.Test.YtcdlfgggmigcnaaDoorHp
import Derived.Test.YtcdlfgggmigcnaaDoorHeapOrd
namespace Go.Proofs.YtcdlfgggmigcnaaDoor.Rep
open Go.RowKit
open Go.Proofs.YtcdlfgggmigcnaaDoor.Own Go.Proofs.YtcdlfgggmigcnaaDoor.Hp Go.Proofs.YtcdlfgggmigcnaaDoor.HeapOrd

/-- What a block of a heap is for. -/
inductive Lab where
  | hdr
  | objs
  | free
  | obj (n : Nat)
  | row (n : Nat)
  | bytes (n : Nat)

/-- A word by value. -/
abbrev wd (w : Wd) : Value := .agg #[.int .i64 w.1, .int .i64 w.2]
/-- Words in memory, two cells each. -/
def wcells : List Wd → List Value
  | [] => []
  | x :: l => .int .i64 x.1 :: .int .i64 x.2 :: wcells l
def bcells (l : List Int) : List Value := l.map (Value.int .u8)
/-- A slice of some elements whose cells lie in a block of their own. -/
def SlAt (w : World) (lab : Nat → Option Lab) (k : Lab) (v : Value) (n : Nat) (xs : List Value) : Prop :=
  ∃ A cap, v = .slice A n cap ∧ n ≤ cap ∧ (0 < n → ∃ g, A = some ⟨g, 0, none⟩ ∧ lab g = some k ∧ Row w g xs)

/-- How an object lies in memory. -/
def ObAt (w : World) (lab : Nat → Option Lab) (n : Nat) (v : Value) : Option Ob → Prop
  | none => v = .nilIface
  | some (.cons a d) => ∃ g, v = .iface 108 (.pointer (some ⟨g, 0, none⟩)) ∧ lab g = some (.obj n) ∧ Blk w g #[.int .i64 a.1, .int .i64 a.2, .int .i64 d.1, .int .i64 d.2] 110
  | some (.text s k) => ∃ g, v = .iface 112 (.pointer (some ⟨g, 0, none⟩)) ∧ lab g = some (.obj n) ∧ Blk w g #[.string s, .int .i64 (k : Int)] 114
  | some (.vec l) => ∃ g r, v = .iface 119 (.pointer (some ⟨g, 0, none⟩)) ∧ lab g = some (.obj n) ∧ Blk w g #[r] 121 ∧ SlAt w lab (.row n) r l.length (wcells l)
  | some (.code p q z b l) => ∃ g rb rl, v = .iface 132 (.pointer (some ⟨g, 0, none⟩)) ∧ lab g = some (.obj n) ∧ Blk w g #[.int .i64 p, .int .i64 q, .int .i64 z, rb, rl] 135 ∧ SlAt w lab (.bytes n) rb b.length (bcells b) ∧ SlAt w lab (.row n) rl l.length (wcells l)

/-- An object is no greater than one may be. -/
def Small : Option Ob → Prop
  | some (.text _ k) => k ≤ 65536
  | some (.vec l) => l.length ≤ 65536
  | some (.code _ _ _ b l) => b.length ≤ 65536 ∧ l.length ≤ 65536
  | _ => True

/-- The parts of a heap: the slice of its objects, that of its free numbers, the latter's numbers. -/
structure Parts where
  m : Nat
  ov : Value
  fv : Value
  vals : List Value
  nf : Nat
  f : Nat → Nat

def fcells (n : Nat) (f : Nat → Nat) : List Value := (List.range n).map fun k => .int .i64 (f k : Int)

/-- A heap in memory: its header's block, its limit, its objects by their numbers, what its blocks are for. -/
structure HeapIs (w : World) (base hp lim : Nat) (ob : Obs) (lab : Nat → Option Lab) (P : Parts) : Prop where
  lim1 : 1 ≤ lim
  lim2 : lim ≤ 65536
  inb : ∀ b l, lab b = some l → base ≤ b ∧ b < w.heap.size
  hdr : lab hp = some .hdr
  blk : Blk w hp #[.int .i64 (lim : Int), P.ov, P.fv, .int .i64 (usedTo ob lim : Int)] 106
  m : P.m ≤ lim
  out : ∀ i, P.m ≤ i → ob i = none
  used : usedTo ob lim ≤ 1048576
  objs : w.ownsRow base 117 1 P.ov P.m P.vals
  olab : ∀ k, P.ov.ownBlock = some k → lab k = some .objs
  each : ∀ i, i < P.m → ∃ v, P.vals[i]? = some v ∧ ObAt w lab i v (ob i)
  small : ∀ i, Small (ob i)
  free : w.ownsRow base 3 1 P.fv P.nf (fcells P.nf P.f)
  flab : ∀ k, P.fv.ownBlock = some k → lab k = some .free
  ord : Ord P.f P.nf
  inj : Inj P.f P.nf
  holes : ∀ x, (∃ k, k < P.nf ∧ P.f k = x) ↔ (x < P.m ∧ ob x = none)

def HeapAt (w : World) (base hp lim : Nat) (ob : Obs) (lab : Nat → Option Lab) : Prop := ∃ P, HeapIs w base hp lim ob lab P

theorem SlAt.keeps {F : Nat → Prop} {w w' : World} {lab lab' : Nat → Option Lab} {k : Lab} {v : Value} {n : Nat} {xs : List Value} (h : SlAt w lab k v n xs) (hk : Keeps F w w') (hl : ∀ g, lab g = some k → ¬ F g ∧ lab' g = some k) : SlAt w' lab' k v n xs := by
  obtain ⟨A, cap, hv, hc, hr⟩ := h
  refine ⟨A, cap, hv, hc, fun h0 => ?_⟩
  obtain ⟨g, hA, hg, hrow⟩ := hr h0
  exact ⟨g, hA, (hl g hg).2, hrow.keeps hk (hl g hg).1⟩
/-- The labels that are for one number. -/
def Lab.for : Lab → Option Nat
  | .obj n => some n
  | .row n => some n
  | .bytes n => some n
  | _ => none
theorem ObAt.keeps {F : Nat → Prop} {w w' : World} {lab lab' : Nat → Option Lab} {n : Nat} {v : Value} {o : Option Ob} (h : ObAt w lab n v o) (hk : Keeps F w w')
    (hl : ∀ g k, lab g = some k → k.for = some n → ¬ F g ∧ lab' g = some k) : ObAt w' lab' n v o := by
  cases o with
  | none => exact h
  | some o =>
    cases o with
    | cons a d =>
      obtain ⟨g, hv, hg, hb⟩ := h
      exact ⟨g, hv, (hl g _ hg rfl).2, hb.keeps hk (hl g _ hg rfl).1⟩
    | text s k =>
      obtain ⟨g, hv, hg, hb⟩ := h
      exact ⟨g, hv, (hl g _ hg rfl).2, hb.keeps hk (hl g _ hg rfl).1⟩
    | vec l =>
      obtain ⟨g, r, hv, hg, hb, hr⟩ := h
      exact ⟨g, r, hv, (hl g _ hg rfl).2, hb.keeps hk (hl g _ hg rfl).1, hr.keeps hk fun g hg => hl g _ hg rfl⟩
    | code p q z b l =>
      obtain ⟨g, rb, rl, hv, hg, hb, hr, hr2⟩ := h
      exact ⟨g, rb, rl, hv, (hl g _ hg rfl).2, hb.keeps hk (hl g _ hg rfl).1, hr.keeps hk fun g hg => hl g _ hg rfl, hr2.keeps hk fun g hg => hl g _ hg rfl⟩

/-- A heap stays where its blocks are kept. -/
theorem HeapIs.keeps {F : Nat → Prop} {w w' : World} {base hp lim : Nat} {ob : Obs} {lab : Nat → Option Lab} {P : Parts} (h : HeapIs w base hp lim ob lab P) (hk : Keeps F w w') (hF : ∀ b, F b → lab b = none) : HeapIs w' base hp lim ob lab P := by
  have hn : ∀ g k, lab g = some k → ¬ F g := fun g k hg hf => by rw [hF g hf] at hg; cases hg
  exact { h with
    inb := fun b l hb => ⟨(h.inb b l hb).1, Nat.lt_of_lt_of_le (h.inb b l hb).2 hk.size⟩
    blk := h.blk.keeps hk (hn _ _ h.hdr)
    objs := owns_keeps h.objs hk fun k hv => hn _ _ (h.olab k hv)
    each := fun i hi => by
      obtain ⟨v, hv, ho⟩ := h.each i hi
      exact ⟨v, hv, ho.keeps hk fun g k hg _ => ⟨hn g k hg, hg⟩⟩
    free := owns_keeps h.free hk fun k hv => hn _ _ (h.flab k hv) }
theorem HeapAt.keeps {F : Nat → Prop} {w w' : World} {base hp lim : Nat} {ob : Obs} {lab : Nat → Option Lab} (h : HeapAt w base hp lim ob lab) (hk : Keeps F w w') (hF : ∀ b, F b → lab b = none) : HeapAt w' base hp lim ob lab := by
  obtain ⟨P, h⟩ := h
  exact ⟨P, h.keeps hk hF⟩
theorem HeapAt.below {w w' : World} {base hp lim : Nat} {ob : Obs} {lab : Nat → Option Lab} (h : HeapAt w base hp lim ob lab) (hk : Below w.heap.size w w') : HeapAt w' base hp lim ob lab :=
  h.keeps (F := fun _ => False) (.of_below hk) fun _ hf => hf.elim
theorem HeapIs.below {w w' : World} {base hp lim : Nat} {ob : Obs} {lab : Nat → Option Lab} {P : Parts} (h : HeapIs w base hp lim ob lab P) (hk : Below w.heap.size w w') : HeapIs w' base hp lim ob lab P :=
  h.keeps (F := fun _ => False) (.of_below hk) fun _ hf => hf.elim

/-- The numbers that are free are as many as the slice tells. -/
theorem HeapIs.many {w : World} {base hp lim : Nat} {ob : Obs} {lab : Nat → Option Lab} {P : Parts} (h : HeapIs w base hp lim ob lab P) : manyTo ob lim + P.nf = P.m := by
  have h1 := count_of_row P.f P.nf P.m (fun x => (ob x).isNone) h.inj fun x => by rw [h.holes x]; simp
  rw [manyTo_more ob P.m lim h.m h.out]
  have h2 : ∀ m, manyTo ob m + ((List.range m).filter fun x => (ob x).isNone).length = m := by
    intro m
    induction m with
    | zero => rfl
    | succ m ih =>
      rw [List.range_succ, List.filter_append, List.length_append]
      simp only [manyTo]
      cases hm : ob m <;> simp [hm] <;> omega
  have := h2 P.m
  omega
end Go.Proofs.YtcdlfgggmigcnaaDoor.Rep
