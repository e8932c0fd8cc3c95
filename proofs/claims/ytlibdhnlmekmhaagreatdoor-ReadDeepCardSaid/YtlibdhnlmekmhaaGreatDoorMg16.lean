/- A heap and a table that lie apart, as the reader changes them. | Maps from ints to values in memory, each by the function that it is. | The contract of runes.List. -/
import Derived.Test.YtlibdhnlmekmhaaGreatDoorRows
import Derived.Maps.OwnSet
import Derived.Maps.AppendAt
import Derived.WalkKit
import Derived.Laws.RangeString
import Derived.Laws.RangeAny
import Derived.LoopTactic
import Derived.Lib.OthersKept
import Derived.WalkSmall
import Derived.OwnWalk
import Derived.Laws.MakeOwn
import Derived.Test.YtlibdhnlmekmhaaGreatDoorMg01
import Derived.Test.YtlibdhnlmekmhaaGreatDoorMg04
import Derived.Test.YtlibdhnlmekmhaaGreatDoorMg15
/- A heap and a table that lie apart, as the reader changes them. -/
section
namespace Go.Proofs.YtlibdhnlmekmhaaGreatDoor.Rd
set_option maxRecDepth 100000
open Go.RowKit
open Go.Proofs.YtlibdhnlmekmhaaGreatDoor.Own Go.Proofs.YtlibdhnlmekmhaaGreatDoor.Hp Go.Proofs.YtlibdhnlmekmhaaGreatDoor.Rep Go.Proofs.YtlibdhnlmekmhaaGreatDoor.Get Go.Proofs.YtlibdhnlmekmhaaGreatDoor.Add Go.Proofs.YtlibdhnlmekmhaaGreatDoor.Make Go.Proofs.YtlibdhnlmekmhaaGreatDoor.Strs Go.Proofs.YtlibdhnlmekmhaaGreatDoor.Clone Go.Proofs.YtlibdhnlmekmhaaGreatDoor.Quick
open Go.Proofs.YtlibdhnlmekmhaaGreatDoor.Nt hiding Wd

/-- A heap and a table that lie apart from one another; F: their blocks. -/
structure HT (w : World) (base hp lim tp : Nat) (ob : Obs) (tb : Tb) (F : Nat → Prop) : Prop where
  high : base ≤ w.heap.size
  is : ∃ lh lt PH PT, HeapIs w base hp lim ob lh PH ∧ TabIs w base tp tb lt PT ∧ (∀ b, Of lh b → ¬ TOf lt b) ∧ ∀ b, F b ↔ (Of lh b ∨ TOf lt b)
/-- What a change of blocks G leaves of a state whose blocks are F. -/
structure HAfter (w w' : World) (G F F' : Nat → Prop) : Prop where
  keeps : Keeps G w w'
  grow : ∀ b, F' b → F b ∨ w.heap.size ≤ b
def HTOk (w w' : World) (base hp lim tp : Nat) (ob : Obs) (tb : Tb) (F : Nat → Prop) : Prop := ∃ F', HT w' base hp lim tp ob tb F' ∧ HAfter w w' F F F'

theorem HAfter.refl (w : World) (G F : Nat → Prop) : HAfter w w G F F := ⟨.refl _ _, fun _ h => .inl h⟩
theorem HAfter.below {w w' : World} {G F : Nat → Prop} (h : Below w.heap.size w w') : HAfter w w' G F F := ⟨.of_below h, fun _ h => .inl h⟩
theorem HAfter.mono {w w' : World} {G G' F F' : Nat → Prop} (h : HAfter w w' G F F') (hg : ∀ b, G b → G' b) : HAfter w w' G' F F' := ⟨h.keeps.mono fun b _ hb => hg b hb, h.grow⟩
/-- One change after another; the second one's blocks are among those of the first or were laid by it. -/
theorem HAfter.trans {w w1 w2 : World} {G G1 F F1 F2 : Nat → Prop} (h : HAfter w w1 G F F1) (k : HAfter w1 w2 G1 F1 F2) (hg : ∀ b, G1 b → G b ∨ w.heap.size ≤ b) : HAfter w w2 G F F2 := by
  refine ⟨h.keeps.then k.keeps fun b hb hf => ?_, fun b hb => ?_⟩
  · rcases hg b hf with e | e
    · exact e
    · omega
  · rcases k.grow b hb with e | e
    · exact h.grow b e
    · exact .inr (Nat.le_trans h.keeps.size e)

theorem HT.lt {w : World} {base hp lim tp b : Nat} {ob : Obs} {tb : Tb} {F : Nat → Prop} (h : HT w base hp lim tp ob tb F) (hb : F b) : base ≤ b ∧ b < w.heap.size := by
  obtain ⟨lh, lt, PH, PT, hH, hT, _, hF⟩ := h.is
  rcases (hF b).1 hb with e | e
  · cases hh : lh b with
    | none => exact absurd hh e
    | some l => exact hH.inb b l hh
  · cases hh : lt b with
    | none => exact absurd hh e
    | some l => exact hT.inb b l hh
theorem HT.fresh {w : World} {base hp lim tp b : Nat} {ob : Obs} {tb : Tb} {F : Nat → Prop} (h : HT w base hp lim tp ob tb F) (hb : w.heap.size ≤ b) : ¬ F b := fun hf => by
  have := (h.lt hf).2
  omega
theorem HT.keeps {w w' : World} {base hp lim tp : Nat} {ob : Obs} {tb : Tb} {F G : Nat → Prop} (h : HT w base hp lim tp ob tb F) (hk : Keeps G w w') (hg : ∀ b, G b → ¬ F b) : HT w' base hp lim tp ob tb F := by
  obtain ⟨lh, lt, PH, PT, hH, hT, hd, hF⟩ := h.is
  refine ⟨Nat.le_trans h.high hk.size, lh, lt, PH, PT, hH.keeps hk fun b hb => ?_, hT.keeps hk fun b hb => ?_, hd, hF⟩
  · cases hh : lh b with
    | none => rfl
    | some l => exact absurd ((hF b).2 (.inl (by unfold Of; rw [hh]; simp))) (hg b hb)
  · cases hh : lt b with
    | none => rfl
    | some l => exact absurd ((hF b).2 (.inr (by unfold TOf; rw [hh]; simp))) (hg b hb)
theorem HT.below {w w' : World} {base hp lim tp : Nat} {ob : Obs} {tb : Tb} {F : Nat → Prop} (h : HT w base hp lim tp ob tb F) (hk : Below w.heap.size w w') : HT w' base hp lim tp ob tb F :=
  h.keeps (G := fun _ => False) (.of_below hk) fun _ hf => hf.elim
theorem HT.ofHeap {w w' : World} {base hp lim tp : Nat} {ob' : Obs} {tb : Tb} {F : Nat → Prop} {lh : Nat → Option Lab} {lt : Nat → Option TLab} {PT : TParts} (hhigh : base ≤ w.heap.size) (hH : ∀ b, Of lh b → b < w.heap.size) (hT : TabIs w base tp tb lt PT) (hd : ∀ b, Of lh b → ¬ TOf lt b)
    (hF : ∀ b, F b ↔ (Of lh b ∨ TOf lt b)) (hok : AddOk w w' base hp lim ob' lh) : HTOk w w' base hp lim tp ob' tb F := by
  obtain ⟨lh', PH', hH', hA⟩ := hok
  have hT' : TabIs w' base tp tb lt PT := hT.keeps hA.keeps fun b hb => by
    cases hh : lt b with
    | none => rfl
    | some l => exact absurd (by unfold TOf; rw [hh]; simp) (hd b hb)
  refine ⟨fun b => Of lh' b ∨ TOf lt b, ⟨Nat.le_trans hhigh hA.keeps.size, lh', lt, PH', PT, hH', hT', fun b hb ht => ?_, fun _ => Iff.rfl⟩, ⟨hA.keeps.mono fun b _ hb => (hF b).2 (.inl hb), fun b hb => ?_⟩⟩
  · rcases hA.grow b hb with e | e
    · exact hd b e ht
    · cases hh : lt b with
      | none => exact absurd hh ht
      | some l => have := (hT.inb b l hh).2; omega
  · rcases hb with hb | hb
    · rcases hA.grow b hb with e | e
      · exact .inl ((hF b).2 (.inl e))
      · exact .inr e
    · exact .inl ((hF b).2 (.inr hb))
theorem HT.ofTab {w w' : World} {base hp lim tp : Nat} {ob : Obs} {tb' : Tb} {F : Nat → Prop} {lh : Nat → Option Lab} {lt : Nat → Option TLab} {PH : Parts} (hhigh : base ≤ w.heap.size) (hH : HeapIs w base hp lim ob lh PH) (hd : ∀ b, Of lh b → ¬ TOf lt b)
    (hF : ∀ b, F b ↔ (Of lh b ∨ TOf lt b)) (hok : TabOk w w' base tp tb' lt) : HTOk w w' base hp lim tp ob tb' F := by
  obtain ⟨lt', PT', hT', hA⟩ := hok
  have hH' : HeapIs w' base hp lim ob lh PH := hH.keeps hA.keeps fun b hb => by
    cases hh : lh b with
    | none => rfl
    | some l => exact absurd hb (hd b (by unfold Of; rw [hh]; simp))
  refine ⟨fun b => Of lh b ∨ TOf lt' b, ⟨Nat.le_trans hhigh hA.keeps.size, lh, lt', PH, PT', hH', hT', fun b hb ht => ?_, fun _ => Iff.rfl⟩, ⟨hA.keeps.mono fun b _ hb => (hF b).2 (.inr hb), fun b hb => ?_⟩⟩
  · rcases hA.grow b ht with e | e
    · exact hd b hb e
    · cases hh : lh b with
      | none => exact absurd hh hb
      | some l => have := (hH.inb b l hh).2; omega
  · rcases hb with hb | hb
    · exact .inl ((hF b).2 (.inl hb))
    · rcases hA.grow b hb with e | e
      · exact .inl ((hF b).2 (.inr e))
      · exact .inr e
/-- A call that changes the heap alone. -/
theorem HT.act {w : World} {base hp lim tp : Nat} {ob ob' : Obs} {tb : Tb} {F : Nat → Prop} {f : FuncId} {args : Array Value} {r : Ending} (h : HT w base hp lim tp ob tb F)
    (hc : ∀ lh PH, HeapIs w base hp lim ob lh PH → Calls Tryz.prog f args w fun e w' => e = r ∧ AddOk w w' base hp lim ob' lh) : Calls Tryz.prog f args w fun e w' => e = r ∧ HTOk w w' base hp lim tp ob' tb F := by
  obtain ⟨lh, lt, PH, PT, hH, hT, hd, hF⟩ := h.is
  exact (hc lh PH hH).mono fun e w' ⟨he, hok⟩ => ⟨he, HT.ofHeap h.high (fun b hb => by
    cases hh : lh b with
    | none => exact absurd hh hb
    | some l => exact (hH.inb b l hh).2) hT hd hF hok⟩
/-- A call that changes the table alone. -/
theorem HT.tact {w : World} {base hp lim tp : Nat} {ob : Obs} {tb tb' : Tb} {F : Nat → Prop} {f : FuncId} {args : Array Value} {r : Ending} (h : HT w base hp lim tp ob tb F)
    (hc : ∀ lt PT, TabIs w base tp tb lt PT → Calls Tryz.prog f args w fun e w' => e = r ∧ TabOk w w' base tp tb' lt) : Calls Tryz.prog f args w fun e w' => e = r ∧ HTOk w w' base hp lim tp ob tb' F := by
  obtain ⟨lh, lt, PH, PT, hH, hT, hd, hF⟩ := h.is
  exact (hc lt PT hT).mono fun e w' ⟨he, hok⟩ => ⟨he, HT.ofTab h.high hH hd hF hok⟩
theorem HT.cons {w : World} {base hp lim tp : Nat} {ob : Obs} {tb : Tb} {F : Nat → Prop} (h : HT w base hp lim tp ob tb F) (x y : Wd) :
    Calls Tryz.prog 55 #[ptr hp, wd x, wd y] w fun e w' => e = .returned (.tuple #[wd (addO ob lim (.cons x y)).1, .int .i64 (addO ob lim (.cons x y)).2.1]) ∧ HTOk w w' base hp lim tp (addO ob lim (.cons x y)).2.2 tb F :=
  h.act fun _ _ hH => cons_any hH h.high x y
theorem HT.vec {w : World} {base hp lim tp : Nat} {ob : Obs} {tb : Tb} {F : Nat → Prop} (h : HT w base hp lim tp ob tb F) (v : Value) (l : List Wd) (hl : SlR w v l.length (wcells l)) (hm : l.length ≤ 9223372036854775807) :
    Calls Tryz.prog 167 #[ptr hp, v] w fun e w' => e = .returned (.tuple #[wd (vecO ob lim l).1, .int .i64 (vecO ob lim l).2.1]) ∧ HTOk w w' base hp lim tp (vecO ob lim l).2.2 tb F :=
  h.act fun _ _ hH => vec_any hH h.high v l hl hm
theorem HT.text {w : World} {base hp lim tp : Nat} {ob : Obs} {tb : Tb} {F : Nat → Prop} (h : HT w base hp lim tp ob tb F) (s : ByteArray) (hs : s.size ≤ 4611686018427387904) (hT : Tabs w) :
    Calls Tryz.prog 174 #[ptr hp, .string s] w fun e w' => e = .returned (.tuple #[wd (textO ob lim s).1, .int .i64 (textO ob lim s).2.1]) ∧ HTOk w w' base hp lim tp (textO ob lim s).2.2 tb F :=
  h.act fun _ _ hH => Make.text_any hH h.high s hs hT
theorem HT.intern {w : World} {base hp lim tp : Nat} {ob : Obs} {tb : Tb} {F : Nat → Prop} (h : HT w base hp lim tp ob tb F) (s : ByteArray) (hs : s.size ≤ 4611686018427387904) (hT : Tabs w) :
    Calls Tryz.prog 147 #[tptr tp, .string s] w fun e w' => e = .returned (.tuple #[.int .i64 (internO tb s).1, .int .i64 (internO tb s).2.1]) ∧ HTOk w w' base hp lim tp ob (internO tb s).2.2 F :=
  h.tact fun _ _ hT' => intern_any hT' h.high s hs hT
theorem HTOk.keeps {w w' : World} {base hp lim tp : Nat} {ob : Obs} {tb : Tb} {F : Nat → Prop} (h : HTOk w w' base hp lim tp ob tb F) : Keeps F w w' := by
  obtain ⟨F', _, hA⟩ := h
  exact hA.keeps
end Go.Proofs.YtlibdhnlmekmhaaGreatDoor.Rd
end

/- Maps from ints to values in memory, each by the function that it is. -/
section
namespace Go.Proofs.YtlibdhnlmekmhaaGreatDoor.Mp
open Go.RowKit Go.Maps
open Go.Proofs.YtlibdhnlmekmhaaGreatDoor.Own

theorem law : Keyed Tryz.prog 3 := int_keyed Tryz.underlying3
/-- An element is read as the value that it is. -/
def heldR (v : Value) : Option (DataW Value × List MemPlace) := some (.held v, [])
abbrev ki (x : Int) : Lit := .int .i64 x
def Wf (x : Int) : Prop := -9223372036854775808 ≤ x ∧ x ≤ 9223372036854775807
theorem Wf.lit {x : Int} (h : Wf x) : (Lit.int .i64 x).wf = true := by
  have hmin : IntKind.i64.min = -9223372036854775808 := rfl
  simp [Lit.wf]
  unfold Wf at h
  omega
theorem Wf.key {x : Int} (h : Wf x) : keyOf Tryz.prog 3 (.int .i64 x) = some (ki x) := keyOf_int_mk Tryz.underlying3 h.lit
theorem ki_inj {x y : Int} (h : ki x = ki y) : x = y := by simpa using h

def upd (F : Int → Option Value) (x : Int) (v : Option Value) : Int → Option Value := fun y => if y = x then v else F y

theorem nodup_len : ∀ (M : Nat) (l : List Int), l.Nodup → (∀ x ∈ l, 0 ≤ x ∧ x < (M : Int)) → l.length ≤ M
  | 0, l, _, h => by
    cases l with
    | nil => simp
    | cons x l => have := h x (by simp); omega
  | M + 1, l, hn, h => by
    have h1 := nodup_len M (l.erase (M : Int)) (hn.erase _) fun x hx => by
      have h2 := (List.Nodup.mem_erase_iff hn).1 hx
      have h3 := h x h2.2
      have h4 := h2.1
      omega
    have h5 := List.length_erase (a := (M : Int)) (l := l)
    split at h5 <;> omega

/-- Block b is a map that is the function F. -/
def MapOf (w : World) (b : Nat) (F : Int → Option Value) : Prop :=
  ∃ (D : DataW Value) (ks : List Int), w.ownsMap Tryz.prog 3 heldR b (size D) D ∧ size D = ks.length ∧ ks.Nodup ∧ (∀ x, x ∈ ks ↔ (F x).isSome = true) ∧ (∀ x, has D (ki x) = (F x).isSome) ∧
    (∀ x z, D.atKey (ki x) (.held z) = .held ((F x).getD z)) ∧ ∀ x, (F x).isSome = true → 0 ≤ x ∧ x ≤ 65536

theorem owns_size {w : World} {b n : Nat} {D : DataW Value} (h : w.ownsMap Tryz.prog 3 heldR b n D) : w.ownsMap Tryz.prog 3 heldR b (size D) D := by
  obtain ⟨es, clock, hb, F, hs, rfl⟩ := h
  exact ⟨es, clock, hb, F, by simp [size, length_sorted], rfl⟩
theorem MapOf.lt {w : World} {b : Nat} {F : Int → Option Value} (h : MapOf w b F) : b < w.heap.size := by
  obtain ⟨D, ks, h, _⟩ := h
  exact h.lt
theorem MapOf.keeps {G : Nat → Prop} {w w' : World} {b : Nat} {F : Int → Option Value} (h : MapOf w b F) (hk : Keeps G w w') (hb : ¬ G b) : MapOf w' b F := by
  have hlt := h.lt
  obtain ⟨D, ks, ⟨es, clock, h1, r⟩, r2⟩ := h
  exact ⟨D, ks, ⟨es, clock, (hk.block b hlt hb).trans h1, r⟩, r2⟩
theorem MapOf.below {w w' : World} {b : Nat} {F : Int → Option Value} (h : MapOf w b F) (hk : Below w.heap.size w w') : MapOf w' b F :=
  h.keeps (G := fun _ => False) (.of_below hk) id
theorem MapOf.made (w : World) : MapOf (w.alloc (.map #[] 0)) w.heap.size (fun _ => none) :=
  ⟨.map [], [], World.ownsMap_made w _ _ _, rfl, List.nodup_nil, by simp, fun _ => rfl, fun _ _ => rfl, by simp⟩
theorem MapOf.congr {w : World} {b : Nat} {F G : Int → Option Value} (h : MapOf w b F) (e : ∀ x, F x = G x) : MapOf w b G := by
  rw [← (funext e : F = G)]
  exact h

/-- 'm[x]'. -/
theorem MapOf.look {w : World} {b : Nat} {F : Int → Option Value} (h : MapOf w b F) {t e : TypeId} (ht : Tryz.prog.underlying t = some (.map 3 e)) {z : Value} (hz : (zeroValue e).run Tryz.prog w = .ok z w) {x : Int} (hx : Wf x) :
    (Instr.lookup t (.map (some b)) (.int .i64 x) false).run Tryz.prog w = .ok ((F x).getD z) w := by
  obtain ⟨D, ks, ho, _, _, _, _, h2, _⟩ := h
  obtain ⟨v, ps, hrun, hv⟩ := ho.lookup law ht hz (zd := .held z) (zp := []) rfl hx.key
  rw [h2 x z] at hv
  simp only [heldR, Option.some.injEq, Prod.mk.injEq, DataW.held.injEq] at hv
  rw [hrun, hv.1]
theorem MapOf.count {w : World} {b : Nat} {F : Int → Option Value} (h : MapOf w b F) {t e : TypeId} (ht : Tryz.prog.underlying t = some (.map 3 e)) (ty : TypeId) :
    ∃ m : Nat, (Builtin.len_ #[t] ty #[.map (some b)]).run Tryz.prog w = .ok (.int .i64 (m : Int)) w ∧ (m = 0 ↔ ∀ x, F x = none) ∧ m ≤ 65537 := by
  obtain ⟨D, ks, ho, hs, hn, hk, _, _, hr⟩ := h
  refine ⟨size D, ho.len ht ty, ?_, ?_⟩
  · rw [hs]
    constructor
    · intro h0 x
      have := hk x
      rw [List.eq_nil_of_length_eq_zero h0] at this
      simpa using this
    · intro h0
      cases ks with
      | nil => rfl
      | cons x l =>
        have := (hk x).1 (by simp)
        rw [h0 x] at this
        cases this
  · rw [hs]
    exact nodup_len 65537 ks hn fun x hx => by have := hr x ((hk x).1 hx); omega
theorem MapOf.room {D : DataW Value} {ks : List Int} {F : Int → Option Value} (hs : size D = ks.length) (hn : ks.Nodup) (hk : ∀ x, x ∈ ks ↔ (F x).isSome = true) (hr : ∀ x, (F x).isSome = true → 0 ≤ x ∧ x ≤ 65536) : size D < maxLen := by
  have := nodup_len 65537 ks hn fun x hx => by have := hr x ((hk x).1 hx); omega
  unfold maxLen
  omega
/-- 'm[x] = v'. -/
theorem MapOf.store {w : World} {b : Nat} {F : Int → Option Value} (h : MapOf w b F) {t e : TypeId} (ht : Tryz.prog.underlying t = some (.map 3 e)) {x : Int} (hx : 0 ≤ x ∧ x ≤ 65536) (v : Value) :
    ∃ w', (Instr.mapUpdate t (.map (some b)) (.int .i64 x) v).run Tryz.prog w = .ok () w' ∧ MapOf w' b (upd F x (some v)) ∧ w.grownBy w' (some b) := by
  obtain ⟨D, ks, ho, hs, hn, hk, h1, h2, hr⟩ := h
  have hwf : Wf x := by unfold Wf; omega
  have htidy := ho.tidy law
  have hkey : WideAt.IsKeyLit (ki x) := trivial
  obtain ⟨w', hrun, ho', hg⟩ := ho.update law ht (MapOf.room hs hn hk hr) hwf.key (val := v) (d := .held v) (ps := []) rfl
  refine ⟨w', hrun, ⟨_, if (F x).isSome then ks else x :: ks, owns_size ho', ?_, ?_, fun y => ?_, fun y => ?_, fun y z => ?_, fun y => ?_⟩, hg⟩
  · rw [size_put htidy, h1 x, hs]
    cases (F x).isSome <;> simp
  · cases hf : (F x).isSome
    · simp only [Bool.false_eq_true, if_false, List.nodup_cons]
      exact ⟨(fun hm => by rw [(hk x).1 hm] at hf; cases hf), hn⟩
    · simpa using hn
  · by_cases e : y = x
    · subst e
      cases hf : (F y).isSome
      · simp [upd]
      · simpa [upd, hf] using hk y
    · cases hf : (F x).isSome
      · simp [upd, e, hk y]
      · simp [upd, e, hk y]
  · by_cases e : y = x
    · subst e
      rw [has_put_same ho.isMap hkey]
      simp [upd]
    · rw [has_put_other (fun h => e (ki_inj h)), h1 y]
      simp [upd, e]
  · by_cases e : y = x
    · subst e
      rw [atKey_put_same ho.isMap hkey]
      simp [upd]
    · rw [atKey_put_other (fun h => e (ki_inj h)), h2 y]
      simp [upd, e]
  · by_cases e : y = x
    · subst e
      intro _
      exact hx
    · simp only [upd, e, if_false]
      exact hr y
/-- 'delete(m, x)'. -/
theorem MapOf.drop {w : World} {b : Nat} {F : Int → Option Value} (h : MapOf w b F) {t e : TypeId} (ht : Tryz.prog.underlying t = some (.map 3 e)) {x : Int} (hx : Wf x) (ty : TypeId) :
    ∃ w', (Builtin.delete_ #[t, 3] ty #[.map (some b), .int .i64 x]).run Tryz.prog w = .ok (.tuple #[]) w' ∧ MapOf w' b (upd F x none) ∧ w.grownBy w' (some b) := by
  obtain ⟨D, ks, ho, hs, hn, hk, h1, h2, hr⟩ := h
  have htidy := ho.tidy law
  obtain ⟨w', hrun, ho', hg⟩ := ho.drop law ht hx.key ty
  refine ⟨w', hrun, ⟨_, ks.erase x, owns_size ho', ?_, hn.erase _, fun y => ?_, fun y => ?_, fun y z => ?_, fun y => ?_⟩, hg.grown⟩
  · have hd := size_del (k := ki x) htidy
    rw [h1 x, hs] at hd
    rw [List.length_erase]
    by_cases hm : x ∈ ks
    · rw [if_pos hm]
      rw [if_pos ((hk x).1 hm)] at hd
      omega
    · rw [if_neg hm]
      rw [if_neg (fun hh => hm ((hk x).2 hh))] at hd
      omega
  · rw [List.Nodup.mem_erase_iff hn]
    by_cases e : y = x
    · subst e
      simp [upd]
    · simp [upd, e, hk y]
  · by_cases e : y = x
    · subst e
      rw [has_del_same]
      simp [upd]
    · rw [has_del_other (fun h => e (ki_inj h)), h1 y]
      simp [upd, e]
  · by_cases e : y = x
    · subst e
      rw [atKey_del_same]
      simp [upd]
    · rw [atKey_del_other (fun h => e (ki_inj h)), h2 y]
      simp [upd, e]
  · by_cases e : y = x
    · subst e
      simp [upd]
    · simp only [upd, e, if_false]
      exact hr y
/-- A nil map. -/
theorem look_nil (w : World) {t e : TypeId} (ht : Tryz.prog.underlying t = some (.map 3 e)) {z : Value} (hz : (zeroValue e).run Tryz.prog w = .ok z w) {x : Int} (hx : Wf x) :
    (Instr.lookup t (.map none) (.int .i64 x) false).run Tryz.prog w = .ok z w := Maps.look_nil false law ht hz hx.key
theorem drop_nil (w : World) {t e : TypeId} (ht : Tryz.prog.underlying t = some (.map 3 e)) {x : Int} (hx : Wf x) (ty : TypeId) :
    (Builtin.delete_ #[t, 3] ty #[.map none, .int .i64 x]).run Tryz.prog w = .ok (.tuple #[]) w := Maps.drop_nil law ht hx.key ty
theorem len_nil (w : World) {t e : TypeId} (ht : Tryz.prog.underlying t = some (.map 3 e)) (ty : TypeId) : (Builtin.len_ #[t] ty #[.map none]).run Tryz.prog w = .ok (.int .i64 0) w := Maps.len_nil ht ty
theorem keeps_grown {w w' : World} {b : Nat} (h : w.grownBy w' (some b)) : Keeps (fun k => k = b) w w' :=
  ⟨h.os, h.tape, h.output, h.size, fun k hk hn => h.block k hk (fun e => hn (by simpa using e))⟩

theorem mapT : Tryz.prog.underlying 89 = some (.map 3 143) := Tryz.underlying89
theorem zeroT (w : World) : (zeroValue 143).run Tryz.prog w = .ok .nilFunc w := by kernel_rfl
end Go.Proofs.YtlibdhnlmekmhaaGreatDoor.Mp
end

/- The contract of runes.List. -/
section
namespace Go.Proofs.YtlibdhnlmekmhaaGreatDoor.Lst
set_option maxRecDepth 100000
open Go.RowKit Go.Shelf Go.Lib
open Go.Proofs.YtlibdhnlmekmhaaGreatDoor.Utf Go.Proofs.YtlibdhnlmekmhaaGreatDoor.Strs

theorem int_info : (Tryz.prog.info? 3).map (fun i => (i.zero, i.size, i.bytes)) = some (some (.int .i64 0), 1, 8) := by kernel_rfl

/-- An owned row stays where a string's iterator moves on. -/
theorem owns_iter {w : World} {base : Nat} {e : TypeId} {size : Nat} {v : Value} {n : Nat} {xs : List Value} (h : w.ownsRow base e size v n xs) {k : Nat} {s : ByteArray} {pos : Nat} (hk : w.heap[k]? = some (.stringIter s pos)) (pos' : Nat) :
    (w.iterAt k s pos').ownsRow base e size v n xs := by
  refine ⟨h.1, ?_⟩
  rcases h.2 with h0 | ⟨g, cap, cur, hv, hb, hg, rest⟩
  · exact .inl h0
  · refine .inr ⟨g, cap, cur, hv, hb, ?_, rest⟩
    rw [iterAt_other _ _ _ _ _ (by rintro rfl; rw [hk] at hg; cases hg)]
    exact hg
/-- An iterator is no owned row. -/
theorem owns_ne {w : World} {base : Nat} {e : TypeId} {size : Nat} {v : Value} {n : Nat} {xs : List Value} (h : w.ownsRow base e size v n xs) {k : Nat} {s : ByteArray} {pos : Nat} (hk : w.heap[k]? = some (.stringIter s pos)) : some k ≠ v.ownBlock := by
  rcases h.2 with ⟨rfl, _⟩ | ⟨g, cap, cur, rfl, hb, hg, rest⟩
  · simp [Value.ownBlock]
  · simp only [Value.ownBlock, ne_eq, Option.some.injEq]
    rintro rfl
    rw [hk] at hg
    cases hg

/-- The value, the row and the world that List leaves. -/
def Lists (w : World) (l : List UInt8) (e : Ending) (w' : World) : Prop :=
  ∃ g cap n, e = .returned (.tuple #[.slice (some ⟨g, 0, none⟩) n cap, .int .i64 0]) ∧ n = (runes l).length ∧ w'.ownsRow w.heap.size 3 1 (.slice (some ⟨g, 0, none⟩) n cap) n ((runes l).map (Value.int .i64)) ∧ Below w.heap.size w w'

theorem list_no (s : ByteArray) (w : World) (hs : s.size < 9223372036854775807) (hT : Tabs w) (hv : validD s.data.toList = false) :
    Calls Tryz.prog 119 #[.string s] w fun e w' => e = .returned (.tuple #[.slice none 0 0, .int .i64 5]) ∧ Below w.heap.size w w' := by
  have h := valid_any s w (by omega) hT
  rw [hv] at h
  have HV := Lib.hid h
  clear h hv
  go_enter Tryz.func119, Tryz.ntmps119
  go_wp2_with (go_at_call 162; refine HV.out.mono ?_; rintro e w' ⟨rfl, hb⟩)
  go_ret2
  exact ⟨rfl, hb⟩

set_option maxHeartbeats 2000000 in
theorem list_yes (s : ByteArray) (w : World) (hs : s.size < 1000000) (hT : Tabs w) (hv : validD s.data.toList = true) :
    Calls Tryz.prog 119 #[.string s] w (Lists w s.data.toList) := by
  have h := valid_any s w (by omega) hT
  rw [hv] at h
  have HV := Lib.hid h
  clear h hv
  have HC := Lib.hid (fun w' => Tryz.utf8_RuneCountInString s w' (by omega))
  have hle := runeCount_le s
  obtain ⟨i0, hi, hz0, hz1, hz2⟩ := info_parts int_info
  have HI := Lib.hid hi
  have HZ0 := Lib.hid hz0
  have HZ1 := Lib.hid hz1
  have HZ2 := Lib.hid hz2
  clear hi hz0 hz1 hz2
  obtain ⟨R, hR⟩ : ∃ R, runes s.data.toList = R := ⟨_, rfl⟩
  have hR0 : runes (from_ s 0) = R := hR
  have HR0 := Lib.hid hR0
  have HRL := Lib.hid (show runeCount s = R.length by rw [runeCount_eq, hR])
  unfold Lists
  rw [hR]
  clear hR hR0
  generalize runeCount s = rc at *
  go_enter Tryz.func119, Tryz.ntmps119
  go_wp2_with (first
    | (go_at_call 162; refine HV.out.mono ?_; rintro e w1 ⟨rfl, hb⟩)
    | (go_at_call 163; refine (HC.out _).mono ?_; rintro e w2 ⟨rfl, pos0, rfl⟩)
    | (at_make; refine wpList_make_own _ rfl _ _ 50 rfl w.heap.size 3 i0 (.int .i64 0) 1 Tryz.underlying50 HI.out HZ0.out HZ1.out .i64 .i64 _ rc rfl rfl rfl ?b2 ?b3 ?b4 ?_))
  case b2 => rw [HZ2.out]; omega
  case b3 => unfold maxLen; omega
  case b4 => have := hb.size; simp [World.iter]; omega
  intro w3 hown hgr
  have hb3 : Below w.heap.size w w3 := (hb.alloc hb.size _).grown hgr (by have := hb.size; simp; omega) (by simp)
  clear HV HC hb hgr
  go_wp2
  go_loopw [4] (fun v wr => ∃ (pos k : Nat), wr.heap[w3.heap.size]? = some (.stringIter s pos) ∧ k ≤ pos ∧ Hid (runes (from_ s pos) = R.drop k) ∧ k ≤ R.length ∧ Below w.heap.size w wr ∧ wr.ownsRow w.heap.size 3 1 v k ((R.take k).map (Value.int .i64)) ∧ Hid (∃ g cap, v = .slice (some ⟨g, 0, none⟩) k cap)) (fun _ wr => s.size - wr.iterPos w3.heap.size)
  case atStart => exact ⟨0, 0, World.iter_heap _ _ _, Nat.le_refl _, HR0.out, Nat.zero_le _, hb3.alloc hb3.size _, by rw [List.take_zero]; exact hown.alloc _, ⟨_, _, rfl⟩⟩
  case round =>
    obtain ⟨pos, k, hit, hkp, HI2, hkR, hbr, hownr, HV⟩ := hrel
    by_cases hp : pos < s.size
    · have hnx : ∀ ty, (Instr.next (.pointer (some ⟨w3.heap.size, 0, none⟩)) true ty).run Tryz.prog wr = _ := fun ty => run_next_any_at wr w3.heap.size s pos ty hit hp
      have hwd := decode_width_pos s pos hp
      have hle2 := decode_le s pos
      have hst := runes_from s pos hp
      rw [HI2.out] at hst
      have hkR2 : k < R.length := by
        have := congrArg List.length hst
        simp at this
        omega
      have hRk : R.take (k + 1) = R.take k ++ [((Utf8.decode s pos).1 : Int)] := by
        have h2 : R[k]? = some ((Utf8.decode s pos).1 : Int) := by rw [← List.head?_drop, hst]; rfl
        rw [List.take_add_one, h2]; rfl
      have hnext : Hid (runes (from_ s (pos + (Utf8.decode s pos).2)) = R.drop (k + 1)) := by
        show _ = _
        rw [← List.tail_drop, hst]
        rfl
      have hit2 := iterAt_heap wr w3.heap.size s pos (pos + (Utf8.decode s pos).2) hit
      have hown2 := owns_iter hownr hit (pos + (Utf8.decode s pos).2)
      have hbr2 := below_iterAt hbr hb3.size s (pos + (Utf8.decode s pos).2)
      have hK : w3.heap.size < (wr.iterAt w3.heap.size s (pos + (Utf8.decode s pos).2)).heap.size := (Array.getElem?_eq_some_iff.1 hit2).1
      have hne := owns_ne hown2 hit2
      have HRk := Lib.hid hRk
      have Hit0 := Lib.hid hit
      clear hst hRk HI2 hit hownr hbr
      generalize Utf8.decode s pos = D at *
      obtain ⟨d, dw⟩ := D
      have hdle : (d : Int) ≤ 2147483647 := by have : d ≤ 2147483647 := hle2; omega
      have hwd' : 1 ≤ dw := hwd
      have HRk' : Hid (R.take (k + 1) = R.take k ++ [(d : Int)]) := HRk
      have hnext' : Hid (runes (from_ s (pos + dw)) = R.drop (k + 1)) := hnext
      clear hle2 hwd HRk hnext
      obtain ⟨wi, hwi⟩ : ∃ wi, wi = wr.iterAt w3.heap.size s (pos + dw) := ⟨_, rfl⟩
      change ∀ ty, (Instr.next (.pointer (some ⟨w3.heap.size, 0, none⟩)) true ty).run Tryz.prog wr = .ok (.tuple #[.bool true, .int .i64 pos, .int .i32 d]) (wr.iterAt w3.heap.size s (pos + dw)) at hnx
      rw [← hwi] at hnx
      have hown2' : wi.ownsRow w.heap.size 3 1 u4 k ((R.take k).map (Value.int .i64)) := by rw [hwi]; exact hown2
      have hit2' : wi.heap[w3.heap.size]? = some (.stringIter s (pos + dw)) := by rw [hwi]; exact hit2
      have hbr2' : Below w.heap.size w wi := by rw [hwi]; exact hbr2
      have hK' : w3.heap.size < wi.heap.size := by rw [hwi]; exact hK
      clear hwi hown2 hit2 hbr2 hK
      have Hit := Lib.hid hit2'
      clear hit2'
      go_wp2_with (at_builtin; refine wpList_append_own _ rfl (.tmp 18) (.tmp 21) 50 rfl w.heap.size 3 i0 (.int .i64 0) 1 8 Tryz.underlying50 HI.out HZ0.out HZ1.out HZ2.out rfl (by decide) _ _ _ rfl (hown2'.alloc _) ⟨wi.heap.size, 0, none⟩ 1 1 [.int .i64 d] rfl rfl ?c1 ?c2 ?c3 ?c4 ?c5 ?_)
      case c1 =>
        intro j u hj
        match j, hj with
        | 0, hj => simp at hj; subst hj; simp [Addr.add]
        | (j + 1), hj => simp at hj
      case c2 => intro u hu; simp at hu; subst hu; rfl
      case c3 => unfold maxLen; omega
      case c4 => omega
      case c5 => have := hbr2'.size; simp; omega
      intro v' w5 hown5 hgr5 _
      have hit5 : w5.heap[w3.heap.size]? = some (.stringIter s (pos + dw)) := by
        rw [hgr5.block w3.heap.size (by simp; omega) hne, Below.heap_alloc wi _ w3.heap.size hK']
        exact Hit.out
      have hbr5 : Below w.heap.size w w5 := (hbr2'.alloc hbr2'.size _).grown hgr5 (by have := hbr2'.size; simp; omega) (fun g hg => (hown2'.lt g hg).1)
      have Hit5 := Lib.hid hit5
      have HV5 : Hid (∃ g cap, v' = .slice (some ⟨g, 0, none⟩) (k + 1) cap) := by
        rcases hown5.2 with ⟨_, h0⟩ | ⟨g, cap, cur, hv, _⟩
        · omega
        · exact ⟨g, cap, hv⟩
      clear hit5 hgr5 hnx
      go_wp2
      go_roundw
      case rel => exact ⟨pos + dw, k + 1, Hit5.out, by omega, hnext', by omega, hbr5, by rw [HRk'.out, List.map_append, List.map_take]; exact hown5, HV5⟩
      case measure =>
        have e1 : w5.iterPos w3.heap.size = pos + dw := by simp [World.iterPos, Hit5.out]
        have e2 : wr.iterPos w3.heap.size = pos := by simp [World.iterPos, Hit0.out]
        omega
    · have hnx : ∀ ty, (Instr.next (.pointer (some ⟨w3.heap.size, 0, none⟩)) true ty).run Tryz.prog wr = _ := fun ty => run_next_end_at wr w3.heap.size s pos ty hit hp
      have HD := HI2.out
      rw [runes_from_end s pos hp] at HD
      have hkl : R.length = k := by have := congrArg List.length HD; simp at this; omega
      have htake : R.take k = R := List.take_of_length_le (by omega)
      rw [htake] at hownr
      clear HD HI2 htake
      obtain ⟨g, cap, rfl⟩ := HV.out
      go_wp2
      go_ret2
      exact ⟨g, cap, k, rfl, hkl.symm, hownr, hbr⟩
end Go.Proofs.YtlibdhnlmekmhaaGreatDoor.Lst
end
