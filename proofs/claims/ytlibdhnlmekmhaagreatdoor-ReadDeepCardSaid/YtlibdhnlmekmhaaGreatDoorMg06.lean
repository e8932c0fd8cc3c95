/- How a heap of package heap lies in memory. | A heap in memory behind a change: an object replaced. | A heap in memory whose count of what is used is open; a new object's blocks. | The contracts of the methods of the free numbers. | The contracts of Push and Pop of the free numbers. -/
import Derived.Test.YtlibdhnlmekmhaaGreatDoorRows
import Derived.WalkSpells
import Derived.WalkLawsBesides
import Derived.RegionTactic
import Derived.BigQuiet
import Derived.Deep.QuietTactic
import Derived.ChangeAlike
import Derived.Test.YtlibdhnlmekmhaaGreatDoorMg01
import Derived.Test.YtlibdhnlmekmhaaGreatDoorMg04
import Derived.Test.YtlibdhnlmekmhaaGreatDoorMg05
/- How a heap of package heap lies in memory. -/
section
namespace Go.Proofs.YtlibdhnlmekmhaaGreatDoor.Rep
open Go.RowKit
open Go.Proofs.YtlibdhnlmekmhaaGreatDoor.Own Go.Proofs.YtlibdhnlmekmhaaGreatDoor.Hp Go.Proofs.YtlibdhnlmekmhaaGreatDoor.HeapOrd

/-- What a block of a heap is for. -/
inductive Lab where
  | hdr
  | objs
  | free
  | obj (n : Nat)
  | row (n : Nat)
  | bytes (n : Nat)

/-- A word by value. -/
abbrev wd (w : Wd) : Value := .agg #[.int .i64 w.1, .int .i64 w.2]
/-- Words in memory, two cells each. -/
def wcells : List Wd → List Value
  | [] => []
  | x :: l => .int .i64 x.1 :: .int .i64 x.2 :: wcells l
def bcells (l : List Int) : List Value := l.map (Value.int .u8)
/-- A slice of some elements whose cells lie in a block of their own. -/
def SlAt (w : World) (lab : Nat → Option Lab) (k : Lab) (v : Value) (n : Nat) (xs : List Value) : Prop :=
  ∃ A cap, v = .slice A n cap ∧ n ≤ cap ∧ (0 < n → ∃ g, A = some ⟨g, 0, none⟩ ∧ lab g = some k ∧ Row w g xs)

/-- How an object lies in memory. -/
def ObAt (w : World) (lab : Nat → Option Lab) (n : Nat) (v : Value) : Option Ob → Prop
  | none => v = .nilIface
  | some (.cons a d) => ∃ g, v = .iface 93 (.pointer (some ⟨g, 0, none⟩)) ∧ lab g = some (.obj n) ∧ Blk w g #[.int .i64 a.1, .int .i64 a.2, .int .i64 d.1, .int .i64 d.2] 97
  | some (.text s k) => ∃ g, v = .iface 110 (.pointer (some ⟨g, 0, none⟩)) ∧ lab g = some (.obj n) ∧ Blk w g #[.string s, .int .i64 (k : Int)] 114
  | some (.vec l) => ∃ g r, v = .iface 189 (.pointer (some ⟨g, 0, none⟩)) ∧ lab g = some (.obj n) ∧ Blk w g #[r] 193 ∧ SlAt w lab (.row n) r l.length (wcells l)
  | some (.code p q z b l) => ∃ g rb rl, v = .iface 190 (.pointer (some ⟨g, 0, none⟩)) ∧ lab g = some (.obj n) ∧ Blk w g #[.int .i64 p, .int .i64 q, .int .i64 z, rb, rl] 289 ∧ SlAt w lab (.bytes n) rb b.length (bcells b) ∧ SlAt w lab (.row n) rl l.length (wcells l)

/-- An object is no greater than one may be. -/
def Small : Option Ob → Prop
  | some (.text _ k) => k ≤ 65536
  | some (.vec l) => l.length ≤ 65536
  | some (.code _ _ _ b l) => b.length ≤ 65536 ∧ l.length ≤ 65536
  | _ => True

/-- The parts of a heap: the slice of its objects, that of its free numbers, the latter's numbers. -/
structure Parts where
  m : Nat
  ov : Value
  fv : Value
  vals : List Value
  nf : Nat
  f : Nat → Nat

def fcells (n : Nat) (f : Nat → Nat) : List Value := (List.range n).map fun k => .int .i64 (f k : Int)

/-- A heap in memory: its header's block, its limit, its objects by their numbers, what its blocks are for. -/
structure HeapIs (w : World) (base hp lim : Nat) (ob : Obs) (lab : Nat → Option Lab) (P : Parts) : Prop where
  lim1 : 1 ≤ lim
  lim2 : lim ≤ 65536
  inb : ∀ b l, lab b = some l → base ≤ b ∧ b < w.heap.size
  hdr : lab hp = some .hdr
  blk : Blk w hp #[.int .i64 (lim : Int), P.ov, P.fv, .int .i64 (usedTo ob lim : Int)] 105
  m : P.m ≤ lim
  out : ∀ i, P.m ≤ i → ob i = none
  used : usedTo ob lim ≤ 1048576
  objs : w.ownsRow base 148 1 P.ov P.m P.vals
  olab : ∀ k, P.ov.ownBlock = some k → lab k = some .objs
  each : ∀ i, i < P.m → ∃ v, P.vals[i]? = some v ∧ ObAt w lab i v (ob i)
  small : ∀ i, Small (ob i)
  free : w.ownsRow base 3 1 P.fv P.nf (fcells P.nf P.f)
  flab : ∀ k, P.fv.ownBlock = some k → lab k = some .free
  ord : Ord P.f P.nf
  inj : Inj P.f P.nf
  holes : ∀ x, (∃ k, k < P.nf ∧ P.f k = x) ↔ (x < P.m ∧ ob x = none)

def HeapAt (w : World) (base hp lim : Nat) (ob : Obs) (lab : Nat → Option Lab) : Prop := ∃ P, HeapIs w base hp lim ob lab P

theorem SlAt.keeps {F : Nat → Prop} {w w' : World} {lab lab' : Nat → Option Lab} {k : Lab} {v : Value} {n : Nat} {xs : List Value} (h : SlAt w lab k v n xs) (hk : Keeps F w w') (hl : ∀ g, lab g = some k → ¬ F g ∧ lab' g = some k) : SlAt w' lab' k v n xs := by
  obtain ⟨A, cap, hv, hc, hr⟩ := h
  refine ⟨A, cap, hv, hc, fun h0 => ?_⟩
  obtain ⟨g, hA, hg, hrow⟩ := hr h0
  exact ⟨g, hA, (hl g hg).2, hrow.keeps hk (hl g hg).1⟩
/-- The labels that are for one number. -/
def Lab.for : Lab → Option Nat
  | .obj n => some n
  | .row n => some n
  | .bytes n => some n
  | _ => none
theorem ObAt.keeps {F : Nat → Prop} {w w' : World} {lab lab' : Nat → Option Lab} {n : Nat} {v : Value} {o : Option Ob} (h : ObAt w lab n v o) (hk : Keeps F w w')
    (hl : ∀ g k, lab g = some k → k.for = some n → ¬ F g ∧ lab' g = some k) : ObAt w' lab' n v o := by
  cases o with
  | none => exact h
  | some o =>
    cases o with
    | cons a d =>
      obtain ⟨g, hv, hg, hb⟩ := h
      exact ⟨g, hv, (hl g _ hg rfl).2, hb.keeps hk (hl g _ hg rfl).1⟩
    | text s k =>
      obtain ⟨g, hv, hg, hb⟩ := h
      exact ⟨g, hv, (hl g _ hg rfl).2, hb.keeps hk (hl g _ hg rfl).1⟩
    | vec l =>
      obtain ⟨g, r, hv, hg, hb, hr⟩ := h
      exact ⟨g, r, hv, (hl g _ hg rfl).2, hb.keeps hk (hl g _ hg rfl).1, hr.keeps hk fun g hg => hl g _ hg rfl⟩
    | code p q z b l =>
      obtain ⟨g, rb, rl, hv, hg, hb, hr, hr2⟩ := h
      exact ⟨g, rb, rl, hv, (hl g _ hg rfl).2, hb.keeps hk (hl g _ hg rfl).1, hr.keeps hk fun g hg => hl g _ hg rfl, hr2.keeps hk fun g hg => hl g _ hg rfl⟩

/-- A heap stays where its blocks are kept. -/
theorem HeapIs.keeps {F : Nat → Prop} {w w' : World} {base hp lim : Nat} {ob : Obs} {lab : Nat → Option Lab} {P : Parts} (h : HeapIs w base hp lim ob lab P) (hk : Keeps F w w') (hF : ∀ b, F b → lab b = none) : HeapIs w' base hp lim ob lab P := by
  have hn : ∀ g k, lab g = some k → ¬ F g := fun g k hg hf => by rw [hF g hf] at hg; cases hg
  exact { h with
    inb := fun b l hb => ⟨(h.inb b l hb).1, Nat.lt_of_lt_of_le (h.inb b l hb).2 hk.size⟩
    blk := h.blk.keeps hk (hn _ _ h.hdr)
    objs := owns_keeps h.objs hk fun k hv => hn _ _ (h.olab k hv)
    each := fun i hi => by
      obtain ⟨v, hv, ho⟩ := h.each i hi
      exact ⟨v, hv, ho.keeps hk fun g k hg _ => ⟨hn g k hg, hg⟩⟩
    free := owns_keeps h.free hk fun k hv => hn _ _ (h.flab k hv) }
theorem HeapAt.keeps {F : Nat → Prop} {w w' : World} {base hp lim : Nat} {ob : Obs} {lab : Nat → Option Lab} (h : HeapAt w base hp lim ob lab) (hk : Keeps F w w') (hF : ∀ b, F b → lab b = none) : HeapAt w' base hp lim ob lab := by
  obtain ⟨P, h⟩ := h
  exact ⟨P, h.keeps hk hF⟩
theorem HeapAt.below {w w' : World} {base hp lim : Nat} {ob : Obs} {lab : Nat → Option Lab} (h : HeapAt w base hp lim ob lab) (hk : Below w.heap.size w w') : HeapAt w' base hp lim ob lab :=
  h.keeps (F := fun _ => False) (.of_below hk) fun _ hf => hf.elim
theorem HeapIs.below {w w' : World} {base hp lim : Nat} {ob : Obs} {lab : Nat → Option Lab} {P : Parts} (h : HeapIs w base hp lim ob lab P) (hk : Below w.heap.size w w') : HeapIs w' base hp lim ob lab P :=
  h.keeps (F := fun _ => False) (.of_below hk) fun _ hf => hf.elim

/-- The numbers that are free are as many as the slice tells. -/
theorem HeapIs.many {w : World} {base hp lim : Nat} {ob : Obs} {lab : Nat → Option Lab} {P : Parts} (h : HeapIs w base hp lim ob lab P) : manyTo ob lim + P.nf = P.m := by
  have h1 := count_of_row P.f P.nf P.m (fun x => (ob x).isNone) h.inj fun x => by rw [h.holes x]; simp
  rw [manyTo_more ob P.m lim h.m h.out]
  have h2 : ∀ m, manyTo ob m + ((List.range m).filter fun x => (ob x).isNone).length = m := by
    intro m
    induction m with
    | zero => rfl
    | succ m ih =>
      rw [List.range_succ, List.filter_append, List.length_append]
      simp only [manyTo]
      cases hm : ob m <;> simp [hm] <;> omega
  have := h2 P.m
  omega
end Go.Proofs.YtlibdhnlmekmhaaGreatDoor.Rep
end

/- A heap in memory behind a change: an object replaced. -/
section
namespace Go.Proofs.YtlibdhnlmekmhaaGreatDoor.Rep
open Go.RowKit
open Go.Proofs.YtlibdhnlmekmhaaGreatDoor.Own Go.Proofs.YtlibdhnlmekmhaaGreatDoor.Hp Go.Proofs.YtlibdhnlmekmhaaGreatDoor.HeapOrd

/-- The blocks of a heap. -/
def Of (lab : Nat → Option Lab) (b : Nat) : Prop := lab b ≠ none
/-- The blocks of one object. -/
def OfObj (lab : Nat → Option Lab) (n : Nat) (b : Nat) : Prop := ∃ k, lab b = some k ∧ k.for = some n
theorem OfObj.of {lab : Nat → Option Lab} {n b : Nat} (h : OfObj lab n b) : Of lab b := by
  obtain ⟨k, hk, _⟩ := h
  unfold Of
  rw [hk]
  simp

theorem HeapIs.has {w : World} {base hp lim : Nat} {ob : Obs} {lab : Nat → Option Lab} {P : Parts} (h : HeapIs w base hp lim ob lab P) {n : Nat} {o : Ob} (ho : ob n = some o) : n < P.m := by
  rcases Nat.lt_or_ge n P.m with h1 | h1
  · exact h1
  · rw [h.out n h1] at ho; cases ho

theorem HeapIs.setObj {w w' : World} {base hp lim : Nat} {ob : Obs} {lab : Nat → Option Lab} {P : Parts} (h : HeapIs w base hp lim ob lab P) {n : Nat} {o o' : Ob} {v : Value} (hk : Keeps (OfObj lab n) w w')
    (ho : ob n = some o) (hs : o.size = o'.size) (hv : P.vals[n]? = some v) (hn : ObAt w' lab n v (some o')) (hsm : Small (some o')) : HeapIs w' base hp lim (put ob n (some o')) lab P := by
  have hlt := h.has ho
  have hm := h.m
  have hu : usedTo (put ob n (some o')) lim = usedTo ob lim := by
    have := usedTo_put ob lim n (some o') (by omega)
    rw [ho] at this
    simp only [sizeO] at this
    omega
  have hno : ∀ k, k.for = none → ∀ b, lab b = some k → ¬ OfObj lab n b := by
    rintro k hk b hb ⟨k', hk', hf⟩
    rw [hb] at hk'
    cases hk'
    rw [hk] at hf
    cases hf
  exact { h with
    inb := fun b l hb => ⟨(h.inb b l hb).1, Nat.lt_of_lt_of_le (h.inb b l hb).2 hk.size⟩
    blk := by rw [hu]; exact h.blk.keeps hk (hno .hdr rfl _ h.hdr)
    out := fun i hi => by rw [put_other _ _ _ _ (by omega)]; exact h.out i hi
    used := by rw [hu]; exact h.used
    objs := owns_keeps h.objs hk fun k hv => hno .objs rfl _ (h.olab k hv)
    each := fun i hi => by
      by_cases hin : i = n
      · subst hin
        exact ⟨v, hv, by rw [put_same]; exact hn⟩
      · obtain ⟨v, hv, ho⟩ := h.each i hi
        refine ⟨v, hv, ?_⟩
        rw [put_other _ _ _ _ hin]
        refine ho.keeps hk fun g k hg hf => ⟨?_, hg⟩
        rintro ⟨k', hk', hf'⟩
        rw [hg] at hk'
        cases hk'
        rw [hf] at hf'
        cases hf'
        exact hin rfl
    small := fun i => by
      by_cases hin : i = n
      · subst hin; rw [put_same]; exact hsm
      · rw [put_other _ _ _ _ hin]; exact h.small i
    free := owns_keeps h.free hk fun k hv => hno .free rfl _ (h.flab k hv)
    holes := fun x => by
      rw [h.holes x]
      by_cases hx : x = n
      · subst hx; rw [put_same, ho]; simp
      · rw [put_other _ _ _ _ hx] }
end Go.Proofs.YtlibdhnlmekmhaaGreatDoor.Rep
end

/- A heap in memory whose count of what is used is open; a new object's blocks. -/
section
namespace Go.Proofs.YtlibdhnlmekmhaaGreatDoor.Rep
open Go.RowKit
open Go.Proofs.YtlibdhnlmekmhaaGreatDoor.Own Go.Proofs.YtlibdhnlmekmhaaGreatDoor.Hp Go.Proofs.YtlibdhnlmekmhaaGreatDoor.HeapOrd

structure HeapU (w : World) (base hp lim : Nat) (ob : Obs) (lab : Nat → Option Lab) (P : Parts) (u : Value) : Prop where
  lim1 : 1 ≤ lim
  lim2 : lim ≤ 65536
  inb : ∀ b l, lab b = some l → base ≤ b ∧ b < w.heap.size
  hdr : lab hp = some .hdr
  blk : Blk w hp #[.int .i64 (lim : Int), P.ov, P.fv, u] 105
  m : P.m ≤ lim
  out : ∀ i, P.m ≤ i → ob i = none
  objs : w.ownsRow base 148 1 P.ov P.m P.vals
  olab : ∀ k, P.ov.ownBlock = some k → lab k = some .objs
  each : ∀ i, i < P.m → ∃ v, P.vals[i]? = some v ∧ ObAt w lab i v (ob i)
  small : ∀ i, Small (ob i)
  free : w.ownsRow base 3 1 P.fv P.nf (fcells P.nf P.f)
  flab : ∀ k, P.fv.ownBlock = some k → lab k = some .free
  ord : Ord P.f P.nf
  inj : Inj P.f P.nf
  holes : ∀ x, (∃ k, k < P.nf ∧ P.f k = x) ↔ (x < P.m ∧ ob x = none)

theorem HeapIs.toU {w : World} {base hp lim : Nat} {ob : Obs} {lab : Nat → Option Lab} {P : Parts} (h : HeapIs w base hp lim ob lab P) : HeapU w base hp lim ob lab P (.int .i64 (usedTo ob lim : Int)) := { h with }
theorem HeapU.toIs {w : World} {base hp lim : Nat} {ob : Obs} {lab : Nat → Option Lab} {P : Parts} (h : HeapU w base hp lim ob lab P (.int .i64 (usedTo ob lim : Int))) (hu : usedTo ob lim ≤ 1048576) : HeapIs w base hp lim ob lab P := { h with used := hu }

/-- Where only the count is written, and blocks that are none of the heap's. -/
theorem HeapU.count {w w' : World} {base hp lim : Nat} {ob : Obs} {lab : Nat → Option Lab} {P : Parts} {u u' : Value} (h : HeapU w base hp lim ob lab P u) (hk : Keeps (fun b => b = hp) w w')
    (hB : Blk w' hp #[.int .i64 (lim : Int), P.ov, P.fv, u'] 105) : HeapU w' base hp lim ob lab P u' := by
  have hn : ∀ g k, lab g = some k → k ≠ .hdr → ¬ g = hp := fun g k hg hne e => by subst e; rw [h.hdr] at hg; cases hg; exact hne rfl
  exact { h with
    inb := fun b l hb => ⟨(h.inb b l hb).1, Nat.lt_of_lt_of_le (h.inb b l hb).2 hk.size⟩
    blk := hB
    objs := owns_keeps h.objs hk fun k hv => hn _ _ (h.olab k hv) (by simp)
    each := fun i hi => by
      obtain ⟨v, hv, ho⟩ := h.each i hi
      exact ⟨v, hv, ho.keeps hk fun g k hg hf => ⟨hn g k hg (fun e => by subst e; cases hf), hg⟩⟩
    free := owns_keeps h.free hk fun k hv => hn _ _ (h.flab k hv) (by simp) }

/-- Labels for the blocks of an object that is to come. -/
def both (labO lab : Nat → Option Lab) (b : Nat) : Option Lab := match labO b with | some l => some l | none => lab b
/-- They are for a number that has no object, and lie apart. -/
structure NewLab (w : World) (base n : Nat) (labO lab : Nat → Option Lab) : Prop where
  apart : ∀ b l, labO b = some l → lab b = none ∧ base ≤ b ∧ b < w.heap.size
  for_ : ∀ b l, labO b = some l → l.for = some n
theorem both_old {labO lab : Nat → Option Lab} {b : Nat} {l : Lab} {w : World} {base n : Nat} (h : NewLab w base n labO lab) (hb : lab b = some l) : both labO lab b = some l := by
  unfold both
  cases ho : labO b with
  | none => exact hb
  | some l' =>
    have := (h.apart b l' ho).1
    rw [hb] at this
    cases this
theorem both_new {labO lab : Nat → Option Lab} {b : Nat} {l : Lab} (hb : labO b = some l) : both labO lab b = some l := by
  unfold both
  rw [hb]
theorem HeapU.addLab {w : World} {base hp lim n : Nat} {ob : Obs} {lab labO : Nat → Option Lab} {P : Parts} {u : Value} (h : HeapU w base hp lim ob lab P u) (hn : NewLab w base n labO lab) : HeapU w base hp lim ob (both labO lab) P u :=
  { h with
    inb := fun b l hb => by
      unfold both at hb
      cases ho : labO b with
      | none => rw [ho] at hb; exact h.inb b l hb
      | some l' => exact (hn.apart b l' ho).2
    hdr := both_old hn h.hdr
    olab := fun k hk => both_old hn (h.olab k hk)
    each := fun i hi => by
      obtain ⟨v, hv, ho⟩ := h.each i hi
      exact ⟨v, hv, ho.keeps (F := fun _ => False) (Keeps.refl _ w) fun g k hg _ => ⟨id, both_old hn hg⟩⟩
    flab := fun k hk => both_old hn (h.flab k hk) }
theorem ObAt.both {w : World} {labO lab : Nat → Option Lab} {n : Nat} {v : Value} {o : Option Ob} (h : ObAt w labO n v o) : ObAt w (both labO lab) n v o :=
  h.keeps (F := fun _ => False) (Keeps.refl _ w) fun _ _ hg _ => ⟨id, both_new hg⟩

theorem HeapU.has {w : World} {base hp lim : Nat} {ob : Obs} {lab : Nat → Option Lab} {P : Parts} {u : Value} (h : HeapU w base hp lim ob lab P u) {n : Nat} {o : Ob} (ho : ob n = some o) : n < P.m := by
  rcases Nat.lt_or_ge n P.m with h1 | h1
  · exact h1
  · rw [h.out n h1] at ho; cases ho

/-- An object behind the last one. -/
theorem HeapU.placeEnd {w w' : World} {base hp lim : Nat} {ob : Obs} {lab : Nat → Option Lab} {P : Parts} {u ov' v : Value} {o : Ob} (h : HeapU w base hp lim ob lab P u) (hnf : P.nf = 0) (hlt : P.m < lim)
    (hB : Blk w' hp #[.int .i64 (lim : Int), ov', P.fv, u] 105) (hrow : w'.ownsRow base 148 1 ov' (P.m + 1) (P.vals ++ [v])) (hk : Keeps (fun b => b = hp ∨ P.ov.ownBlock = some b) w w')
    (hpl : ∀ b, ov'.ownBlock = some b → P.ov.ownBlock = some b ∨ w.heap.size ≤ b) (_hb : base ≤ w.heap.size) (ho : ObAt w lab P.m v (some o)) (hs : Small (some o)) :
    HeapU w' base hp lim (put ob P.m (some o)) (fun b => if ov'.ownBlock = some b then some .objs else lab b) { P with m := P.m + 1, ov := ov', vals := P.vals ++ [v] } u := by
  have hl : ∀ b l, lab b = some l → l ≠ .objs → ov'.ownBlock ≠ some b := fun b l hb hne e => by
    rcases hpl b e with e | e
    · have := h.olab b e; rw [hb] at this; cases this; exact hne rfl
    · have := (h.inb b l hb).2; omega
  have hkeep : ∀ b l, lab b = some l → l ≠ .objs → l ≠ .hdr → ¬ (b = hp ∨ P.ov.ownBlock = some b) := fun b l hb h1 h2 e => by
    rcases e with e | e
    · subst e; rw [h.hdr] at hb; cases hb; exact h2 rfl
    · have := h.olab b e; rw [hb] at this; cases this; exact h1 rfl
  have hfor : ∀ i b l, lab b = some l → l.for = some i → l ≠ .objs ∧ l ≠ .hdr := fun i b l _ hf => by constructor <;> (intro e; subst e; cases hf)
  have hobs : ∀ i v', ObAt w lab i v' (ob i) → ObAt w' (fun b => if ov'.ownBlock = some b then some Lab.objs else lab b) i v' (ob i) := fun i v' ho => ho.keeps hk fun g k hg hf => by
    obtain ⟨a, b⟩ := hfor i g k hg hf
    refine ⟨hkeep g k hg a b, ?_⟩
    show (if ov'.ownBlock = some g then some Lab.objs else lab g) = some k
    rw [if_neg (hl g k hg a)]
    exact hg
  have hlen : P.vals.length = P.m := by have := h.objs.1; omega
  exact {
    lim1 := h.lim1
    lim2 := h.lim2
    inb := fun b l hb' => by
      split at hb'
      · rename_i e
        have h1 : base ≤ b ∧ b < w'.heap.size := hrow.lt b e
        exact h1
      · exact ⟨(h.inb b l hb').1, Nat.lt_of_lt_of_le (h.inb b l hb').2 hk.size⟩
    hdr := by
      show (if ov'.ownBlock = some hp then some Lab.objs else lab hp) = _
      rw [if_neg (hl hp _ h.hdr (by simp))]
      exact h.hdr
    blk := hB
    m := by show P.m + 1 ≤ lim; omega
    out := fun i hi => by
      have : P.m + 1 ≤ i := hi
      rw [put_other _ _ _ _ (by omega)]
      exact h.out i (by omega)
    objs := hrow
    olab := fun k hk => by
      show (if ov'.ownBlock = some k then some Lab.objs else lab k) = _
      rw [if_pos hk]
    each := fun i hi => by
      have hi : i < P.m + 1 := hi
      by_cases hm : i = P.m
      · subst hm
        refine ⟨v, by simp [hlen], ?_⟩
        rw [put_same]
        exact ho.keeps hk fun g k hg hf => by
          obtain ⟨a, b⟩ := hfor _ g k hg hf
          refine ⟨hkeep g k hg a b, ?_⟩
          show (if ov'.ownBlock = some g then some Lab.objs else lab g) = some k
          rw [if_neg (hl g k hg a)]
          exact hg
      · obtain ⟨v', hv', ho'⟩ := h.each i (by omega)
        refine ⟨v', by rw [List.getElem?_append_left (by omega)]; exact hv', ?_⟩
        rw [put_other _ _ _ _ hm]
        exact hobs i v' ho'
    small := fun i => by
      by_cases hm : i = P.m
      · subst hm; rw [put_same]; exact hs
      · rw [put_other _ _ _ _ hm]; exact h.small i
    free := owns_keeps h.free hk fun k hv => hkeep k _ (h.flab k hv) (by simp) (by simp)
    flab := fun k hv => by
      show (if ov'.ownBlock = some k then some Lab.objs else lab k) = _
      rw [if_neg (hl k _ (h.flab k hv) (by simp))]
      exact h.flab k hv
    ord := h.ord
    inj := h.inj
    holes := fun x => by
      show (∃ k, k < P.nf ∧ P.f k = x) ↔ _
      constructor
      · rintro ⟨k, hk, _⟩; omega
      · rintro ⟨hx, hxn⟩
        have hx : x < P.m + 1 := hx
        exfalso
        by_cases hm : x = P.m
        · subst hm; rw [put_same] at hxn; cases hxn
        · rw [put_other _ _ _ _ hm] at hxn
          obtain ⟨k, hk, _⟩ := (h.holes x).2 ⟨by omega, hxn⟩
          omega }
end Go.Proofs.YtlibdhnlmekmhaaGreatDoor.Rep
end

/- The contracts of the methods of the free numbers. -/
section
namespace Go.Proofs.YtlibdhnlmekmhaaGreatDoor.Nums
open Go.RowKit
open Go.Proofs.YtlibdhnlmekmhaaGreatDoor.Own Go.Proofs.YtlibdhnlmekmhaaGreatDoor.Hp Go.Proofs.YtlibdhnlmekmhaaGreatDoor.HeapOrd Go.Proofs.YtlibdhnlmekmhaaGreatDoor.Rep

theorem len_any (A : Option Addr) (n c : Nat) (w : World) : Calls Tryz.prog 287 #[.slice A n c] w fun e w' => e = .returned (.int .i64 (n : Int)) ∧ w = w' := by
  go_enter Tryz.func287, Tryz.ntmps287
  go_wp2
  go_ret
  exact ⟨rfl, rfl⟩
theorem less_any (g n c i j : Nat) (x y : Int) (w : World) (hi : i < n) (hj : j < n) (h1 : w.cell? ⟨g, i, none⟩ = some (.int .i64 x)) (h2 : w.cell? ⟨g, j, none⟩ = some (.int .i64 y)) :
    Calls Tryz.prog 288 #[.slice (some ⟨g, 0, none⟩) n c, .int .i64 (i : Int), .int .i64 (j : Int)] w fun e w' => e = .returned (.bool (decide (x < y))) ∧ ∃ q, w' = w.drewN q := by
  go_enter Tryz.func288, Tryz.ntmps288
  go_wp2
  go_quiet (fail)
  go_wp2
  go_ret
  exact ⟨rfl, _, rfl⟩
set_option maxHeartbeats 2000000 in
theorem swap_core (g n c i j : Nat) (x y : Int) (w : World) (hi : i < n) (hj : j < n) (h1 : w.cell? ⟨g, i, none⟩ = some (.int .i64 x)) (h2 : w.cell? ⟨g, j, none⟩ = some (.int .i64 y))
    (f1 : w.frozen? ⟨g, i, none⟩ = false) (f2 : w.frozen? ⟨g, j, none⟩ = false) :
    Calls Tryz.prog 289 #[.slice (some ⟨g, 0, none⟩) n c, .int .i64 (i : Int), .int .i64 (j : Int)] w fun e w' => e = .returned (.tuple #[]) ∧ ∃ q, w' = ((w.setCell ⟨g, i, none⟩ (.int .i64 y)).setCell ⟨g, j, none⟩ (.int .i64 x)).drewN q := by
  obtain ⟨v', hy'⟩ := cell?_setCell_some (w := w) (p := ⟨g, i, none⟩) (x := .int .i64 y) (q := ⟨g, j, none⟩) (v := .int .i64 y) h2
  go_enter Tryz.func289, Tryz.ntmps289
  go_wp2
  go_region
  all_goals (go_end0; exact ⟨rfl, 1, rfl⟩)
theorem fcells_at (n : Nat) (f : Nat → Nat) (k : Nat) (h : k < n) : (fcells n f)[k]? = some (.int .i64 (f k : Int)) := by
  unfold fcells
  simp [h]
theorem fcells_swap (n : Nat) (f : Nat → Nat) (i j : Nat) (hi : i < n) (hj : j < n) : ((fcells n f).set i (.int .i64 (f j : Int))).set j (.int .i64 (f i : Int)) = fcells n (swap f i j) := by
  apply List.ext_getElem?
  intro k
  by_cases hk : k < n
  · rw [fcells_at n (swap f i j) k hk, List.getElem?_set, List.getElem?_set]
    have hl : (fcells n f).length = n := by simp [fcells]
    by_cases e : j = k
    · subst e
      rw [if_pos rfl, if_pos (by simpa [hl] using hj), swap_right]
    · rw [if_neg e]
      by_cases e2 : i = k
      · subst e2
        rw [if_pos rfl, if_pos (by simpa [hl] using hi), swap_left]
      · rw [if_neg e2, fcells_at n f k hk, swap_ne f (fun h => e2 h.symm) (fun h => e h.symm)]
  · rw [List.getElem?_eq_none (by simp [fcells]; omega), List.getElem?_eq_none (by simp [fcells]; omega)]
theorem swap_any (base g n c i j : Nat) (f : Nat → Nat) (w : World) (hi : i < n) (hj : j < n) (h : w.ownsRow base 3 1 (.slice (some ⟨g, 0, none⟩) n c) n (fcells n f)) :
    Calls Tryz.prog 289 #[.slice (some ⟨g, 0, none⟩) n c, .int .i64 (i : Int), .int .i64 (j : Int)] w fun e w' => e = .returned (.tuple #[]) ∧ w'.ownsRow base 3 1 (.slice (some ⟨g, 0, none⟩) n c) n (fcells n (swap f i j)) ∧ Keeps (fun b => b = g) w w' := by
  have hr := Row.of_owns h
  refine (swap_core g n c i j (f i) (f j) w hi hj (hr.cell i _ (fcells_at n f i hi)) (hr.cell j _ (fcells_at n f j hj)) (hr.free i) (hr.free j)).mono ?_
  rintro e w' ⟨he, q, rfl⟩
  refine ⟨he, ?_, (((Keeps.refl (fun b => b = g) w).setCell ⟨g, i, none⟩ _ fun _ => rfl).setCell ⟨g, j, none⟩ _ fun _ => rfl).drewN q⟩
  rw [← fcells_swap n f i j hi hj]
  exact owns_set (owns_set h i _) j _
end Go.Proofs.YtlibdhnlmekmhaaGreatDoor.Nums
end

/- The contracts of Push and Pop of the free numbers. -/
section
namespace Go.Proofs.YtlibdhnlmekmhaaGreatDoor.Nums
open Go.RowKit
open Go.Proofs.YtlibdhnlmekmhaaGreatDoor.Own Go.Proofs.YtlibdhnlmekmhaaGreatDoor.Hp Go.Proofs.YtlibdhnlmekmhaaGreatDoor.HeapOrd Go.Proofs.YtlibdhnlmekmhaaGreatDoor.Rep

theorem int_info : (Tryz.prog.info? 3).map (fun i => (i.zero, i.size, i.bytes)) = some (some (.int .i64 0), 1, 8) := by kernel_rfl
theorem owns_cut {w : World} {base : Nat} {e : TypeId} {g n c m : Nat} {xs : List Value} (h : w.ownsRow base e 1 (.slice (some ⟨g, 0, none⟩) n c) n xs) (hm : m ≤ n) : w.ownsRow base e 1 (.slice (some ⟨g, 0, none⟩) m c) m (xs.take m) := by
  have hl : xs.length = n := by have := h.1; omega
  obtain ⟨_, ⟨hv, _⟩ | ⟨g', cap, cur, hv, hb, hg, hc, hmx, hs, ht⟩⟩ := h
  · cases hv
  · cases hv
    refine ⟨by rw [List.length_take]; omega, .inr ⟨g, c, cur, rfl, hb, hg, by omega, hmx, hs, ?_⟩⟩
    rw [← ht, List.take_take]
    congr 1
    omega
theorem fcells_take (n m : Nat) (f : Nat → Nat) (h : m ≤ n) : (fcells n f).take m = fcells m f := by
  unfold fcells
  rw [← List.map_take, List.take_range]
  congr 2
  omega
theorem fcells_snoc (n : Nat) (f : Nat → Nat) (x : Nat) : fcells n f ++ [.int .i64 (x : Int)] = fcells (n + 1) (fun k => if k = n then x else f k) := by
  unfold fcells
  rw [List.range_succ, List.map_append]
  congr 1
  · apply List.map_congr_left
    intro k hk
    have := List.mem_range.1 hk
    show Value.int .i64 (f k : Int) = .int .i64 ((if k = n then x else f k : Nat) : Int)
    rw [if_neg (by omega)]
  · simp

set_option maxHeartbeats 1000000 in
theorem pop_any (hp k g n c : Nat) (x : Int) (w : World) (hn : n ≤ 65536) (hc : w.cell? ⟨hp, k, none⟩ = some (.slice (some ⟨g, 0, none⟩) (n + 1) c)) (hx : w.cell? ⟨g, n, none⟩ = some (.int .i64 x)) (hfr : w.frozen? ⟨hp, k, none⟩ = false) (hcap : n + 1 ≤ c) (_hcap2 : c ≤ 9223372036854775807) :
    Calls Tryz.prog 295 #[.pointer (some ⟨hp, k, none⟩)] w fun e w' => e = .returned (.iface 3 (.int .i64 x)) ∧ w' = w.setCell ⟨hp, k, none⟩ (.slice (some ⟨g, 0, none⟩) n c) := by
  go_enter Tryz.func295, Tryz.ntmps295
  go_wp2
  go_ret
  exact ⟨rfl, rfl⟩

theorem keeps_push {w W w1 : World} {o : Obj} {row : Option Nat} (hg : W.grownBy w1 row) (h1 : W.heap = (w.alloc o).heap) (h2 : W.os = w.os) (h3 : W.tape = w.tape) (h4 : W.output = w.output) : Keeps (fun b => row = some b) w w1 :=
  ⟨hg.os.trans h2, hg.tape.trans h3, hg.output.trans h4, by have := hg.size; rw [h1] at this; simp at this; omega, fun k hk hn => by
    have hs : W.heap.size = w.heap.size + 1 := by rw [h1]; simp
    rw [hg.block k (by omega) fun e => hn e.symm, h1]
    exact Below.heap_alloc _ _ _ hk⟩
theorem cell_keeps {F : Nat → Prop} {w w' : World} {a : Addr} {v : Value} (hk : Keeps F w w') (h : w.cell? a = some v) (hn : ¬ F a.block) : w'.cell? a = some v :=
  (World.cell?_of_block (hk.block _ (World.block_lt_of_cell? _ _ h) hn)).trans h
theorem alloc_le (w : World) (o : Obj) : w.heap.size ≤ (w.alloc o).heap.size := by simp
theorem as_int (v : Value) (w : World) : (Instr.typeAssert (.iface 3 v) 20 3 false).run Tryz.prog w = .ok v w := by kernel_rfl
end Go.Proofs.YtlibdhnlmekmhaaGreatDoor.Nums
end
