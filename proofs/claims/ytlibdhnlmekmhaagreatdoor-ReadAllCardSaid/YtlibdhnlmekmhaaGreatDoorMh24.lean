/- A heap and a table that lie apart, as the reader changes them. | Maps from ints to values in memory, each by the function that it is. | A parser in memory, and what its methods leave. | What the cards of the reader's statements share: the variables as the row lists them, and a world that holds them. -/
import Derived.Test.YtlibdhnlmekmhaaGreatDoorRows
import Derived.Maps.OwnSet
import Derived.Maps.AppendAt
import Derived.WalkKit
import Derived.Test.YtlibdhnlmekmhaaGreatDoorCards
import Derived.Test.YtlibdhnlmekmhaaGreatDoorTie
import Derived.Lib.LaidIn
import Derived.Lib.LaidU8T
import Derived.PinnedBridge
import Derived.Deep.DeepHandedRow
import Derived.Deep.DeepWitnessRowRef
import Derived.ProofKit
import Derived.SizedLaws
import Derived.OpenShut
import Derived.ShutString
import Derived.ChangeOld
import Derived.Below
import Derived.Test.YtlibdhnlmekmhaaGreatDoorMh11
import Derived.Test.YtlibdhnlmekmhaaGreatDoorMh16
import Derived.Test.YtlibdhnlmekmhaaGreatDoorMh23
/- A heap and a table that lie apart, as the reader changes them. -/
section
namespace Go.Proofs.YtlibdhnlmekmhaaGreatDoor.Rd
set_option maxRecDepth 100000
open Go.RowKit
open Go.Proofs.YtlibdhnlmekmhaaGreatDoor.Own Go.Proofs.YtlibdhnlmekmhaaGreatDoor.Hp Go.Proofs.YtlibdhnlmekmhaaGreatDoor.Rep Go.Proofs.YtlibdhnlmekmhaaGreatDoor.Get Go.Proofs.YtlibdhnlmekmhaaGreatDoor.Add Go.Proofs.YtlibdhnlmekmhaaGreatDoor.Make Go.Proofs.YtlibdhnlmekmhaaGreatDoor.Strs Go.Proofs.YtlibdhnlmekmhaaGreatDoor.Clone Go.Proofs.YtlibdhnlmekmhaaGreatDoor.Quick
open Go.Proofs.YtlibdhnlmekmhaaGreatDoor.Nt hiding Wd

/-- A heap and a table that lie apart from one another; F: their blocks. -/
structure HT (w : World) (base hp lim tp : Nat) (ob : Obs) (tb : Tb) (F : Nat → Prop) : Prop where
  high : base ≤ w.heap.size
  is : ∃ lh lt PH PT, HeapIs w base hp lim ob lh PH ∧ TabIs w base tp tb lt PT ∧ (∀ b, Of lh b → ¬ TOf lt b) ∧ ∀ b, F b ↔ (Of lh b ∨ TOf lt b)
/-- What a change of blocks G leaves of a state whose blocks are F. -/
structure HAfter (w w' : World) (G F F' : Nat → Prop) : Prop where
  keeps : Keeps G w w'
  grow : ∀ b, F' b → F b ∨ w.heap.size ≤ b
def HTOk (w w' : World) (base hp lim tp : Nat) (ob : Obs) (tb : Tb) (F : Nat → Prop) : Prop := ∃ F', HT w' base hp lim tp ob tb F' ∧ HAfter w w' F F F'

theorem HAfter.refl (w : World) (G F : Nat → Prop) : HAfter w w G F F := ⟨.refl _ _, fun _ h => .inl h⟩
theorem HAfter.below {w w' : World} {G F : Nat → Prop} (h : Below w.heap.size w w') : HAfter w w' G F F := ⟨.of_below h, fun _ h => .inl h⟩
theorem HAfter.mono {w w' : World} {G G' F F' : Nat → Prop} (h : HAfter w w' G F F') (hg : ∀ b, G b → G' b) : HAfter w w' G' F F' := ⟨h.keeps.mono fun b _ hb => hg b hb, h.grow⟩
/-- One change after another; the second one's blocks are among those of the first or were laid by it. -/
theorem HAfter.trans {w w1 w2 : World} {G G1 F F1 F2 : Nat → Prop} (h : HAfter w w1 G F F1) (k : HAfter w1 w2 G1 F1 F2) (hg : ∀ b, G1 b → G b ∨ w.heap.size ≤ b) : HAfter w w2 G F F2 := by
  refine ⟨h.keeps.then k.keeps fun b hb hf => ?_, fun b hb => ?_⟩
  · rcases hg b hf with e | e
    · exact e
    · omega
  · rcases k.grow b hb with e | e
    · exact h.grow b e
    · exact .inr (Nat.le_trans h.keeps.size e)

theorem HT.lt {w : World} {base hp lim tp b : Nat} {ob : Obs} {tb : Tb} {F : Nat → Prop} (h : HT w base hp lim tp ob tb F) (hb : F b) : base ≤ b ∧ b < w.heap.size := by
  obtain ⟨lh, lt, PH, PT, hH, hT, _, hF⟩ := h.is
  rcases (hF b).1 hb with e | e
  · cases hh : lh b with
    | none => exact absurd hh e
    | some l => exact hH.inb b l hh
  · cases hh : lt b with
    | none => exact absurd hh e
    | some l => exact hT.inb b l hh
theorem HT.fresh {w : World} {base hp lim tp b : Nat} {ob : Obs} {tb : Tb} {F : Nat → Prop} (h : HT w base hp lim tp ob tb F) (hb : w.heap.size ≤ b) : ¬ F b := fun hf => by
  have := (h.lt hf).2
  omega
theorem HT.keeps {w w' : World} {base hp lim tp : Nat} {ob : Obs} {tb : Tb} {F G : Nat → Prop} (h : HT w base hp lim tp ob tb F) (hk : Keeps G w w') (hg : ∀ b, G b → ¬ F b) : HT w' base hp lim tp ob tb F := by
  obtain ⟨lh, lt, PH, PT, hH, hT, hd, hF⟩ := h.is
  refine ⟨Nat.le_trans h.high hk.size, lh, lt, PH, PT, hH.keeps hk fun b hb => ?_, hT.keeps hk fun b hb => ?_, hd, hF⟩
  · cases hh : lh b with
    | none => rfl
    | some l => exact absurd ((hF b).2 (.inl (by unfold Of; rw [hh]; simp))) (hg b hb)
  · cases hh : lt b with
    | none => rfl
    | some l => exact absurd ((hF b).2 (.inr (by unfold TOf; rw [hh]; simp))) (hg b hb)
theorem HT.below {w w' : World} {base hp lim tp : Nat} {ob : Obs} {tb : Tb} {F : Nat → Prop} (h : HT w base hp lim tp ob tb F) (hk : Below w.heap.size w w') : HT w' base hp lim tp ob tb F :=
  h.keeps (G := fun _ => False) (.of_below hk) fun _ hf => hf.elim
theorem HT.ofHeap {w w' : World} {base hp lim tp : Nat} {ob' : Obs} {tb : Tb} {F : Nat → Prop} {lh : Nat → Option Lab} {lt : Nat → Option TLab} {PT : TParts} (hhigh : base ≤ w.heap.size) (hH : ∀ b, Of lh b → b < w.heap.size) (hT : TabIs w base tp tb lt PT) (hd : ∀ b, Of lh b → ¬ TOf lt b)
    (hF : ∀ b, F b ↔ (Of lh b ∨ TOf lt b)) (hok : AddOk w w' base hp lim ob' lh) : HTOk w w' base hp lim tp ob' tb F := by
  obtain ⟨lh', PH', hH', hA⟩ := hok
  have hT' : TabIs w' base tp tb lt PT := hT.keeps hA.keeps fun b hb => by
    cases hh : lt b with
    | none => rfl
    | some l => exact absurd (by unfold TOf; rw [hh]; simp) (hd b hb)
  refine ⟨fun b => Of lh' b ∨ TOf lt b, ⟨Nat.le_trans hhigh hA.keeps.size, lh', lt, PH', PT, hH', hT', fun b hb ht => ?_, fun _ => Iff.rfl⟩, ⟨hA.keeps.mono fun b _ hb => (hF b).2 (.inl hb), fun b hb => ?_⟩⟩
  · rcases hA.grow b hb with e | e
    · exact hd b e ht
    · cases hh : lt b with
      | none => exact absurd hh ht
      | some l => have := (hT.inb b l hh).2; omega
  · rcases hb with hb | hb
    · rcases hA.grow b hb with e | e
      · exact .inl ((hF b).2 (.inl e))
      · exact .inr e
    · exact .inl ((hF b).2 (.inr hb))
theorem HT.ofTab {w w' : World} {base hp lim tp : Nat} {ob : Obs} {tb' : Tb} {F : Nat → Prop} {lh : Nat → Option Lab} {lt : Nat → Option TLab} {PH : Parts} (hhigh : base ≤ w.heap.size) (hH : HeapIs w base hp lim ob lh PH) (hd : ∀ b, Of lh b → ¬ TOf lt b)
    (hF : ∀ b, F b ↔ (Of lh b ∨ TOf lt b)) (hok : TabOk w w' base tp tb' lt) : HTOk w w' base hp lim tp ob tb' F := by
  obtain ⟨lt', PT', hT', hA⟩ := hok
  have hH' : HeapIs w' base hp lim ob lh PH := hH.keeps hA.keeps fun b hb => by
    cases hh : lh b with
    | none => rfl
    | some l => exact absurd hb (hd b (by unfold Of; rw [hh]; simp))
  refine ⟨fun b => Of lh b ∨ TOf lt' b, ⟨Nat.le_trans hhigh hA.keeps.size, lh, lt', PH, PT', hH', hT', fun b hb ht => ?_, fun _ => Iff.rfl⟩, ⟨hA.keeps.mono fun b _ hb => (hF b).2 (.inr hb), fun b hb => ?_⟩⟩
  · rcases hA.grow b ht with e | e
    · exact hd b hb e
    · cases hh : lh b with
      | none => exact absurd hh hb
      | some l => have := (hH.inb b l hh).2; omega
  · rcases hb with hb | hb
    · exact .inl ((hF b).2 (.inl hb))
    · rcases hA.grow b hb with e | e
      · exact .inl ((hF b).2 (.inr e))
      · exact .inr e
/-- A call that changes the heap alone. -/
theorem HT.act {w : World} {base hp lim tp : Nat} {ob ob' : Obs} {tb : Tb} {F : Nat → Prop} {f : FuncId} {args : Array Value} {r : Ending} (h : HT w base hp lim tp ob tb F)
    (hc : ∀ lh PH, HeapIs w base hp lim ob lh PH → Calls Tryz.prog f args w fun e w' => e = r ∧ AddOk w w' base hp lim ob' lh) : Calls Tryz.prog f args w fun e w' => e = r ∧ HTOk w w' base hp lim tp ob' tb F := by
  obtain ⟨lh, lt, PH, PT, hH, hT, hd, hF⟩ := h.is
  exact (hc lh PH hH).mono fun e w' ⟨he, hok⟩ => ⟨he, HT.ofHeap h.high (fun b hb => by
    cases hh : lh b with
    | none => exact absurd hh hb
    | some l => exact (hH.inb b l hh).2) hT hd hF hok⟩
/-- A call that changes the table alone. -/
theorem HT.tact {w : World} {base hp lim tp : Nat} {ob : Obs} {tb tb' : Tb} {F : Nat → Prop} {f : FuncId} {args : Array Value} {r : Ending} (h : HT w base hp lim tp ob tb F)
    (hc : ∀ lt PT, TabIs w base tp tb lt PT → Calls Tryz.prog f args w fun e w' => e = r ∧ TabOk w w' base tp tb' lt) : Calls Tryz.prog f args w fun e w' => e = r ∧ HTOk w w' base hp lim tp ob tb' F := by
  obtain ⟨lh, lt, PH, PT, hH, hT, hd, hF⟩ := h.is
  exact (hc lt PT hT).mono fun e w' ⟨he, hok⟩ => ⟨he, HT.ofTab h.high hH hd hF hok⟩
theorem HT.cons {w : World} {base hp lim tp : Nat} {ob : Obs} {tb : Tb} {F : Nat → Prop} (h : HT w base hp lim tp ob tb F) (x y : Wd) :
    Calls Tryz.prog 55 #[ptr hp, wd x, wd y] w fun e w' => e = .returned (.tuple #[wd (addO ob lim (.cons x y)).1, .int .i64 (addO ob lim (.cons x y)).2.1]) ∧ HTOk w w' base hp lim tp (addO ob lim (.cons x y)).2.2 tb F :=
  h.act fun _ _ hH => cons_any hH h.high x y
theorem HT.vec {w : World} {base hp lim tp : Nat} {ob : Obs} {tb : Tb} {F : Nat → Prop} (h : HT w base hp lim tp ob tb F) (v : Value) (l : List Wd) (hl : SlR w v l.length (wcells l)) (hm : l.length ≤ 9223372036854775807) :
    Calls Tryz.prog 167 #[ptr hp, v] w fun e w' => e = .returned (.tuple #[wd (vecO ob lim l).1, .int .i64 (vecO ob lim l).2.1]) ∧ HTOk w w' base hp lim tp (vecO ob lim l).2.2 tb F :=
  h.act fun _ _ hH => vec_any hH h.high v l hl hm
theorem HT.text {w : World} {base hp lim tp : Nat} {ob : Obs} {tb : Tb} {F : Nat → Prop} (h : HT w base hp lim tp ob tb F) (s : ByteArray) (hs : s.size ≤ 4611686018427387904) (hT : Tabs w) :
    Calls Tryz.prog 174 #[ptr hp, .string s] w fun e w' => e = .returned (.tuple #[wd (textO ob lim s).1, .int .i64 (textO ob lim s).2.1]) ∧ HTOk w w' base hp lim tp (textO ob lim s).2.2 tb F :=
  h.act fun _ _ hH => Make.text_any hH h.high s hs hT
theorem HT.intern {w : World} {base hp lim tp : Nat} {ob : Obs} {tb : Tb} {F : Nat → Prop} (h : HT w base hp lim tp ob tb F) (s : ByteArray) (hs : s.size ≤ 4611686018427387904) (hT : Tabs w) :
    Calls Tryz.prog 147 #[tptr tp, .string s] w fun e w' => e = .returned (.tuple #[.int .i64 (internO tb s).1, .int .i64 (internO tb s).2.1]) ∧ HTOk w w' base hp lim tp ob (internO tb s).2.2 F :=
  h.tact fun _ _ hT' => intern_any hT' h.high s hs hT
theorem HTOk.keeps {w w' : World} {base hp lim tp : Nat} {ob : Obs} {tb : Tb} {F : Nat → Prop} (h : HTOk w w' base hp lim tp ob tb F) : Keeps F w w' := by
  obtain ⟨F', _, hA⟩ := h
  exact hA.keeps
end Go.Proofs.YtlibdhnlmekmhaaGreatDoor.Rd
end

/- Maps from ints to values in memory, each by the function that it is. -/
section
namespace Go.Proofs.YtlibdhnlmekmhaaGreatDoor.Mp
open Go.RowKit Go.Maps
open Go.Proofs.YtlibdhnlmekmhaaGreatDoor.Own

theorem law : Keyed Tryz.prog 3 := int_keyed Tryz.underlying3
/-- An element is read as the value that it is. -/
def heldR (v : Value) : Option (DataW Value × List MemPlace) := some (.held v, [])
abbrev ki (x : Int) : Lit := .int .i64 x
def Wf (x : Int) : Prop := -9223372036854775808 ≤ x ∧ x ≤ 9223372036854775807
theorem Wf.lit {x : Int} (h : Wf x) : (Lit.int .i64 x).wf = true := by
  have hmin : IntKind.i64.min = -9223372036854775808 := rfl
  simp [Lit.wf]
  unfold Wf at h
  omega
theorem Wf.key {x : Int} (h : Wf x) : keyOf Tryz.prog 3 (.int .i64 x) = some (ki x) := keyOf_int_mk Tryz.underlying3 h.lit
theorem ki_inj {x y : Int} (h : ki x = ki y) : x = y := by simpa using h

def upd (F : Int → Option Value) (x : Int) (v : Option Value) : Int → Option Value := fun y => if y = x then v else F y

theorem nodup_len : ∀ (M : Nat) (l : List Int), l.Nodup → (∀ x ∈ l, 0 ≤ x ∧ x < (M : Int)) → l.length ≤ M
  | 0, l, _, h => by
    cases l with
    | nil => simp
    | cons x l => have := h x (by simp); omega
  | M + 1, l, hn, h => by
    have h1 := nodup_len M (l.erase (M : Int)) (hn.erase _) fun x hx => by
      have h2 := (List.Nodup.mem_erase_iff hn).1 hx
      have h3 := h x h2.2
      have h4 := h2.1
      omega
    have h5 := List.length_erase (a := (M : Int)) (l := l)
    split at h5 <;> omega

/-- Block b is a map that is the function F. -/
def MapOf (w : World) (b : Nat) (F : Int → Option Value) : Prop :=
  ∃ (D : DataW Value) (ks : List Int), w.ownsMap Tryz.prog 3 heldR b (size D) D ∧ size D = ks.length ∧ ks.Nodup ∧ (∀ x, x ∈ ks ↔ (F x).isSome = true) ∧ (∀ x, has D (ki x) = (F x).isSome) ∧
    (∀ x z, D.atKey (ki x) (.held z) = .held ((F x).getD z)) ∧ ∀ x, (F x).isSome = true → 0 ≤ x ∧ x ≤ 65536

theorem owns_size {w : World} {b n : Nat} {D : DataW Value} (h : w.ownsMap Tryz.prog 3 heldR b n D) : w.ownsMap Tryz.prog 3 heldR b (size D) D := by
  obtain ⟨es, clock, hb, F, hs, rfl⟩ := h
  exact ⟨es, clock, hb, F, by simp [size, length_sorted], rfl⟩
theorem MapOf.lt {w : World} {b : Nat} {F : Int → Option Value} (h : MapOf w b F) : b < w.heap.size := by
  obtain ⟨D, ks, h, _⟩ := h
  exact h.lt
theorem MapOf.keeps {G : Nat → Prop} {w w' : World} {b : Nat} {F : Int → Option Value} (h : MapOf w b F) (hk : Keeps G w w') (hb : ¬ G b) : MapOf w' b F := by
  have hlt := h.lt
  obtain ⟨D, ks, ⟨es, clock, h1, r⟩, r2⟩ := h
  exact ⟨D, ks, ⟨es, clock, (hk.block b hlt hb).trans h1, r⟩, r2⟩
theorem MapOf.below {w w' : World} {b : Nat} {F : Int → Option Value} (h : MapOf w b F) (hk : Below w.heap.size w w') : MapOf w' b F :=
  h.keeps (G := fun _ => False) (.of_below hk) id
theorem MapOf.made (w : World) : MapOf (w.alloc (.map #[] 0)) w.heap.size (fun _ => none) :=
  ⟨.map [], [], World.ownsMap_made w _ _ _, rfl, List.nodup_nil, by simp, fun _ => rfl, fun _ _ => rfl, by simp⟩
theorem MapOf.congr {w : World} {b : Nat} {F G : Int → Option Value} (h : MapOf w b F) (e : ∀ x, F x = G x) : MapOf w b G := by
  rw [← (funext e : F = G)]
  exact h

/-- 'm[x]'. -/
theorem MapOf.look {w : World} {b : Nat} {F : Int → Option Value} (h : MapOf w b F) {t e : TypeId} (ht : Tryz.prog.underlying t = some (.map 3 e)) {z : Value} (hz : (zeroValue e).run Tryz.prog w = .ok z w) {x : Int} (hx : Wf x) :
    (Instr.lookup t (.map (some b)) (.int .i64 x) false).run Tryz.prog w = .ok ((F x).getD z) w := by
  obtain ⟨D, ks, ho, _, _, _, _, h2, _⟩ := h
  obtain ⟨v, ps, hrun, hv⟩ := ho.lookup law ht hz (zd := .held z) (zp := []) rfl hx.key
  rw [h2 x z] at hv
  simp only [heldR, Option.some.injEq, Prod.mk.injEq, DataW.held.injEq] at hv
  rw [hrun, hv.1]
theorem MapOf.count {w : World} {b : Nat} {F : Int → Option Value} (h : MapOf w b F) {t e : TypeId} (ht : Tryz.prog.underlying t = some (.map 3 e)) (ty : TypeId) :
    ∃ m : Nat, (Builtin.len_ #[t] ty #[.map (some b)]).run Tryz.prog w = .ok (.int .i64 (m : Int)) w ∧ (m = 0 ↔ ∀ x, F x = none) ∧ m ≤ 65537 := by
  obtain ⟨D, ks, ho, hs, hn, hk, _, _, hr⟩ := h
  refine ⟨size D, ho.len ht ty, ?_, ?_⟩
  · rw [hs]
    constructor
    · intro h0 x
      have := hk x
      rw [List.eq_nil_of_length_eq_zero h0] at this
      simpa using this
    · intro h0
      cases ks with
      | nil => rfl
      | cons x l =>
        have := (hk x).1 (by simp)
        rw [h0 x] at this
        cases this
  · rw [hs]
    exact nodup_len 65537 ks hn fun x hx => by have := hr x ((hk x).1 hx); omega
theorem MapOf.room {D : DataW Value} {ks : List Int} {F : Int → Option Value} (hs : size D = ks.length) (hn : ks.Nodup) (hk : ∀ x, x ∈ ks ↔ (F x).isSome = true) (hr : ∀ x, (F x).isSome = true → 0 ≤ x ∧ x ≤ 65536) : size D < maxLen := by
  have := nodup_len 65537 ks hn fun x hx => by have := hr x ((hk x).1 hx); omega
  unfold maxLen
  omega
/-- 'm[x] = v'. -/
theorem MapOf.store {w : World} {b : Nat} {F : Int → Option Value} (h : MapOf w b F) {t e : TypeId} (ht : Tryz.prog.underlying t = some (.map 3 e)) {x : Int} (hx : 0 ≤ x ∧ x ≤ 65536) (v : Value) :
    ∃ w', (Instr.mapUpdate t (.map (some b)) (.int .i64 x) v).run Tryz.prog w = .ok () w' ∧ MapOf w' b (upd F x (some v)) ∧ w.grownBy w' (some b) := by
  obtain ⟨D, ks, ho, hs, hn, hk, h1, h2, hr⟩ := h
  have hwf : Wf x := by unfold Wf; omega
  have htidy := ho.tidy law
  have hkey : WideAt.IsKeyLit (ki x) := trivial
  obtain ⟨w', hrun, ho', hg⟩ := ho.update law ht (MapOf.room hs hn hk hr) hwf.key (val := v) (d := .held v) (ps := []) rfl
  refine ⟨w', hrun, ⟨_, if (F x).isSome then ks else x :: ks, owns_size ho', ?_, ?_, fun y => ?_, fun y => ?_, fun y z => ?_, fun y => ?_⟩, hg⟩
  · rw [size_put htidy, h1 x, hs]
    cases (F x).isSome <;> simp
  · cases hf : (F x).isSome
    · simp only [Bool.false_eq_true, if_false, List.nodup_cons]
      exact ⟨(fun hm => by rw [(hk x).1 hm] at hf; cases hf), hn⟩
    · simpa using hn
  · by_cases e : y = x
    · subst e
      cases hf : (F y).isSome
      · simp [upd]
      · simpa [upd, hf] using hk y
    · cases hf : (F x).isSome
      · simp [upd, e, hk y]
      · simp [upd, e, hk y]
  · by_cases e : y = x
    · subst e
      rw [has_put_same ho.isMap hkey]
      simp [upd]
    · rw [has_put_other (fun h => e (ki_inj h)), h1 y]
      simp [upd, e]
  · by_cases e : y = x
    · subst e
      rw [atKey_put_same ho.isMap hkey]
      simp [upd]
    · rw [atKey_put_other (fun h => e (ki_inj h)), h2 y]
      simp [upd, e]
  · by_cases e : y = x
    · subst e
      intro _
      exact hx
    · simp only [upd, e, if_false]
      exact hr y
/-- 'delete(m, x)'. -/
theorem MapOf.drop {w : World} {b : Nat} {F : Int → Option Value} (h : MapOf w b F) {t e : TypeId} (ht : Tryz.prog.underlying t = some (.map 3 e)) {x : Int} (hx : Wf x) (ty : TypeId) :
    ∃ w', (Builtin.delete_ #[t, 3] ty #[.map (some b), .int .i64 x]).run Tryz.prog w = .ok (.tuple #[]) w' ∧ MapOf w' b (upd F x none) ∧ w.grownBy w' (some b) := by
  obtain ⟨D, ks, ho, hs, hn, hk, h1, h2, hr⟩ := h
  have htidy := ho.tidy law
  obtain ⟨w', hrun, ho', hg⟩ := ho.drop law ht hx.key ty
  refine ⟨w', hrun, ⟨_, ks.erase x, owns_size ho', ?_, hn.erase _, fun y => ?_, fun y => ?_, fun y z => ?_, fun y => ?_⟩, hg.grown⟩
  · have hd := size_del (k := ki x) htidy
    rw [h1 x, hs] at hd
    rw [List.length_erase]
    by_cases hm : x ∈ ks
    · rw [if_pos hm]
      rw [if_pos ((hk x).1 hm)] at hd
      omega
    · rw [if_neg hm]
      rw [if_neg (fun hh => hm ((hk x).2 hh))] at hd
      omega
  · rw [List.Nodup.mem_erase_iff hn]
    by_cases e : y = x
    · subst e
      simp [upd]
    · simp [upd, e, hk y]
  · by_cases e : y = x
    · subst e
      rw [has_del_same]
      simp [upd]
    · rw [has_del_other (fun h => e (ki_inj h)), h1 y]
      simp [upd, e]
  · by_cases e : y = x
    · subst e
      rw [atKey_del_same]
      simp [upd]
    · rw [atKey_del_other (fun h => e (ki_inj h)), h2 y]
      simp [upd, e]
  · by_cases e : y = x
    · subst e
      simp [upd]
    · simp only [upd, e, if_false]
      exact hr y
/-- A nil map. -/
theorem look_nil (w : World) {t e : TypeId} (ht : Tryz.prog.underlying t = some (.map 3 e)) {z : Value} (hz : (zeroValue e).run Tryz.prog w = .ok z w) {x : Int} (hx : Wf x) :
    (Instr.lookup t (.map none) (.int .i64 x) false).run Tryz.prog w = .ok z w := Maps.look_nil false law ht hz hx.key
theorem drop_nil (w : World) {t e : TypeId} (ht : Tryz.prog.underlying t = some (.map 3 e)) {x : Int} (hx : Wf x) (ty : TypeId) :
    (Builtin.delete_ #[t, 3] ty #[.map none, .int .i64 x]).run Tryz.prog w = .ok (.tuple #[]) w := Maps.drop_nil law ht hx.key ty
theorem len_nil (w : World) {t e : TypeId} (ht : Tryz.prog.underlying t = some (.map 3 e)) (ty : TypeId) : (Builtin.len_ #[t] ty #[.map none]).run Tryz.prog w = .ok (.int .i64 0) w := Maps.len_nil ht ty
theorem keeps_grown {w w' : World} {b : Nat} (h : w.grownBy w' (some b)) : Keeps (fun k => k = b) w w' :=
  ⟨h.os, h.tape, h.output, h.size, fun k hk hn => h.block k hk (fun e => hn (by simpa using e))⟩

theorem mapT : Tryz.prog.underlying 89 = some (.map 3 143) := Tryz.underlying89
theorem zeroT (w : World) : (zeroValue 143).run Tryz.prog w = .ok .nilFunc w := by kernel_rfl
end Go.Proofs.YtlibdhnlmekmhaaGreatDoor.Mp
end

/- A parser in memory, and what its methods leave. -/
section
namespace Go.Proofs.YtlibdhnlmekmhaaGreatDoor.Rd
set_option maxRecDepth 100000
open Go.RowKit
open Go.Proofs.YtlibdhnlmekmhaaGreatDoor.Own Go.Proofs.YtlibdhnlmekmhaaGreatDoor.Hp Go.Proofs.YtlibdhnlmekmhaaGreatDoor.Rep Go.Proofs.YtlibdhnlmekmhaaGreatDoor.Get Go.Proofs.YtlibdhnlmekmhaaGreatDoor.Add Go.Proofs.YtlibdhnlmekmhaaGreatDoor.Make Go.Proofs.YtlibdhnlmekmhaaGreatDoor.Strs Go.Proofs.YtlibdhnlmekmhaaGreatDoor.Clone Go.Proofs.YtlibdhnlmekmhaaGreatDoor.Utf
open Go.Proofs.YtlibdhnlmekmhaaGreatDoor.Nt hiding Wd

/-- The library's variables that the reader reads. -/
def ErrVar (w : World) : Prop := ∃ ev, w.cell? ⟨4, 0, none⟩ = some ev ∧ (ev = .nilIface ∨ ∃ te pe, ev = .iface te pe)
theorem ErrVar.below {w w' : World} (h : ErrVar w) (hb : Below w.heap.size w w') : ErrVar w' := by
  obtain ⟨ev, h1, h2⟩ := h
  exact ⟨ev, (hb.cell (World.block_lt_of_cell? _ _ h1)).trans h1, h2⟩
structure Sys (w : World) : Prop where
  tabs : Tabs w
  err : ErrVar w
theorem Sys.below {w w' : World} (h : Sys w) (hb : Below w.heap.size w w') : Sys w' := ⟨h.tabs.below hb, h.err.below hb⟩

/-- What of a parser does not change: the world in which the statement began, the blocks, the characters. -/
structure Fx where
  w0 : World
  base : Nat
  hp : Nat
  lim : Nat
  tp : Nat
  p : Nat
  g : Nat
  mb : Nat
  cap : Nat
  l : List Int
structure Fx.Ok (X : Fx) : Prop where
  sys : Sys X.w0
  lowb : X.w0.heap.size ≤ X.base
  lowp : X.w0.heap.size ≤ X.p
  short : X.l.length ≤ 1000000
  chars : ∀ c ∈ X.l, isC c
  pg : X.g ≠ X.p
  pm : X.mb ≠ X.p

abbrev pptr (p : Nat) : Value := .pointer (some ⟨p, 0, none⟩)
abbrev fnv (f : FuncId) : Value := .func (.func f) #[] #[]
/-- The methods that read forms, by the first characters. -/
def rdF (x : Int) : Option Value :=
  if x = 40 then some (fnv 121)
  else if x = 41 ∨ x = 93 then some (fnv 122)
  else if x = 91 then some (fnv 123)
  else if x = 39 then some (fnv 124)
  else if x = 96 then some (fnv 125)
  else if x = 44 then some (fnv 126)
  else if x = 35 then some (fnv 127)
  else if x = 34 then some (fnv 128)
  else if x = 63 then some (fnv 129)
  else none

/-- A parser at position a, with op brackets open, in front of what s tells. -/
structure PS (X : Fx) (w : World) (a op : Nat) (s : St) (F : Nat → Prop) : Prop where
  below : Below X.w0.heap.size X.w0 w
  ht : HT w X.base X.hp X.lim X.tp s.ob s.tb F
  blk : Blk w X.p #[ptr X.hp, tptr X.tp, .slice (some ⟨X.g, 0, none⟩) X.l.length X.cap, .int .i64 (a : Int), .int .i64 (op : Int), .map (some X.mb)] 91
  at_ : X.l.drop a = s.rest
  le : a ≤ X.l.length
  row : Row w X.g (X.l.map (Value.int .i64))
  map : Mp.MapOf w X.mb rdF
  fp : ¬ F X.p
  fg : ¬ F X.g
  fm : ¬ F X.mb
  opl : op ≤ 200
/-- What a method leaves. -/
def PAfter (X : Fx) (w w' : World) (F F' : Nat → Prop) : Prop := HAfter w w' (fun b => F b ∨ b = X.p) F F'
theorem PAfter.refl (X : Fx) (w : World) (F : Nat → Prop) : PAfter X w w F F := HAfter.refl _ _ _
theorem PAfter.of_below {X : Fx} {w w' : World} {F : Nat → Prop} (h : Below w.heap.size w w') : PAfter X w w' F F := HAfter.below h
theorem PAfter.trans {X : Fx} {w w1 w2 : World} {F F1 F2 : Nat → Prop} (h : PAfter X w w1 F F1) (k : PAfter X w1 w2 F1 F2) : PAfter X w w2 F F2 :=
  HAfter.trans h k fun b hb => by
    rcases hb with hb | hb
    · rcases h.grow b hb with e | e
      · exact .inl (.inl e)
      · exact .inr e
    · exact .inl (.inr hb)
theorem PS.n {X : Fx} {w : World} {a op : Nat} {s : St} {F : Nat → Prop} (h : PS X w a op s F) : a + s.rest.length = X.l.length := by
  rw [← h.at_, List.length_drop]
  have := h.le
  omega
theorem PS.pos {X : Fx} {w : World} {a op : Nat} {s : St} {F : Nat → Prop} (h : PS X w a op s F) : X.l.length - s.rest.length = a := by
  have := h.n
  omega
theorem PS.sys {X : Fx} {w : World} {a op : Nat} {s : St} {F : Nat → Prop} (h : PS X w a op s F) (hX : X.Ok) : Sys w := hX.sys.below h.below
theorem PS.high {X : Fx} {w : World} {a op : Nat} {s : St} {F : Nat → Prop} (h : PS X w a op s F) (hX : X.Ok) : ∀ b, (F b ∨ b = X.p) → X.w0.heap.size ≤ b := fun b hb => by
  rcases hb with hb | hb
  · exact Nat.le_trans hX.lowb (h.ht.lt hb).1
  · rw [hb]; exact hX.lowp
/-- Where nothing of the parser's is written. -/
theorem PS.keeps {X : Fx} {w w' : World} {a op : Nat} {s : St} {F G : Nat → Prop} (h : PS X w a op s F) (hk : Keeps G w w') (hG : ∀ b, G b → ¬ F b ∧ b ≠ X.p ∧ b ≠ X.g ∧ b ≠ X.mb ∧ X.w0.heap.size ≤ b) : PS X w' a op s F where
  below := h.below.trans (hk.below h.below.size fun b hb => (hG b hb).2.2.2.2)
  ht := h.ht.keeps hk fun b hb => (hG b hb).1
  blk := h.blk.keeps hk fun hb => (hG _ hb).2.1 rfl
  at_ := h.at_
  le := h.le
  row := h.row.keeps hk fun hb => (hG _ hb).2.2.1 rfl
  map := h.map.keeps hk fun hb => (hG _ hb).2.2.2.1 rfl
  fp := h.fp
  fg := h.fg
  fm := h.fm
  opl := h.opl
theorem PS.later {X : Fx} {w w' : World} {a op : Nat} {s : St} {F : Nat → Prop} (h : PS X w a op s F) (hb : Below w.heap.size w w') : PS X w' a op s F :=
  h.keeps (G := fun _ => False) (.of_below hb) fun _ hf => hf.elim
theorem PS.alloc {X : Fx} {w : World} {a op : Nat} {s : St} {F : Nat → Prop} (h : PS X w a op s F) (o : Obj) : PS X (w.alloc o) a op s F := h.later ((Below.refl _ _).alloc (Nat.le_refl _) o)
/-- A block of the caller's own that is written, laid since. -/
theorem PS.write {X : Fx} {w w' : World} {a op B : Nat} {s : St} {F : Nat → Prop} (h : PS X w a op s F) (hk : Keeps (fun b => b = B) w w') (h1 : ¬ F B) (h2 : B ≠ X.p) (h3 : B ≠ X.g) (h4 : B ≠ X.mb) (h5 : X.w0.heap.size ≤ B) : PS X w' a op s F :=
  h.keeps hk fun b hb => by subst hb; exact ⟨h1, h2, h3, h4, h5⟩
/-- The parser's own cells. -/
theorem Blk.six {w : World} {g : Nat} {a b c d e f : Value} {t : TypeId} (h : Blk w g #[a, b, c, d, e, f] t) : w.cell? ⟨g, 0, none⟩ = some a ∧ w.cell? ⟨g, 1, none⟩ = some b ∧ w.cell? ⟨g, 2, none⟩ = some c ∧ w.cell? ⟨g, 3, none⟩ = some d ∧ w.cell? ⟨g, 4, none⟩ = some e ∧ w.cell? ⟨g, 5, none⟩ = some f :=
  ⟨h.cell 0 _ rfl, h.cell 1 _ rfl, h.cell 2 _ rfl, h.cell 3 _ rfl, h.cell 4 _ rfl, h.cell 5 _ rfl⟩
theorem keeps_set (w : World) (p k : Nat) (v : Value) : Keeps (fun b => b = p) w (w.setCell ⟨p, k, none⟩ v) := (Keeps.refl (fun b => b = p) w).setCell ⟨p, k, none⟩ v fun _ => rfl
theorem PS.turn {X : Fx} {w w' : World} {a a' op op' : Nat} {s s' : St} {F : Nat → Prop} (h : PS X w a op s F) (hX : X.Ok) (hk : Keeps (fun b => b = X.p) w w')
    (hB : Blk w' X.p #[ptr X.hp, tptr X.tp, .slice (some ⟨X.g, 0, none⟩) X.l.length X.cap, .int .i64 (a' : Int), .int .i64 (op' : Int), .map (some X.mb)] 91) (hob : s'.ob = s.ob) (htb : s'.tb = s.tb) (hat : X.l.drop a' = s'.rest) (hle : a' ≤ X.l.length) (hop : op' ≤ 200) :
    PS X w' a' op' s' F ∧ PAfter X w w' F F := by
  refine ⟨{
    below := h.below.trans (hk.below h.below.size fun b hb => by rw [hb]; exact hX.lowp)
    ht := by rw [hob, htb]; exact h.ht.keeps hk fun b hb hf => by rw [hb] at hf; exact h.fp hf
    blk := hB
    at_ := hat
    le := hle
    row := h.row.keeps hk fun e => hX.pg e
    map := h.map.keeps hk fun e => hX.pm e
    fp := h.fp
    fg := h.fg
    fm := h.fm
    opl := hop }, ⟨hk.mono fun b _ e => .inr e, fun b hb => .inl hb⟩⟩
/-- The parser moves. -/
theorem PS.move {X : Fx} {w : World} {a op : Nat} {s : St} {F : Nat → Prop} (h : PS X w a op s F) (hX : X.Ok) (a' : Nat) (hle : a' ≤ X.l.length) (v : Value) (hv : v = .int .i64 (a' : Int)) :
    PS X (w.setCell ⟨X.p, 3, none⟩ v) a' op ⟨X.l.drop a', s.ob, s.tb⟩ F ∧ PAfter X w (w.setCell ⟨X.p, 3, none⟩ v) F F := by
  subst hv
  exact h.turn hX (keeps_set _ _ _ _) (by simpa using h.blk.set 3 (.int .i64 (a' : Int))) rfl rfl rfl hle h.opl
/-- A bracket is opened or shut. -/
theorem PS.nest {X : Fx} {w : World} {a op : Nat} {s : St} {F : Nat → Prop} (h : PS X w a op s F) (hX : X.Ok) (op' : Nat) (hle : op' ≤ 200) (v : Value) (hv : v = .int .i64 (op' : Int)) :
    PS X (w.setCell ⟨X.p, 4, none⟩ v) a op' s F ∧ PAfter X w (w.setCell ⟨X.p, 4, none⟩ v) F F := by
  subst hv
  exact h.turn hX (keeps_set _ _ _ _) (by simpa using h.blk.set 4 (.int .i64 (op' : Int))) rfl rfl h.at_ h.le hle
/-- Behind a change of the heap or the table. -/
theorem PS.ofHT {X : Fx} {w w' : World} {a op : Nat} {s : St} {ob : Obs} {tb : Tb} {F : Nat → Prop} (h : PS X w a op s F) (hX : X.Ok) (hok : HTOk w w' X.base X.hp X.lim X.tp ob tb F) : ∃ F', PS X w' a op ⟨s.rest, ob, tb⟩ F' ∧ PAfter X w w' F F' := by
  obtain ⟨F', hH, hA⟩ := hok
  have hn : ∀ b, ¬ F b → b < w.heap.size → ¬ F' b := fun b hb hlt hf => by
    rcases hA.grow b hf with e | e
    · exact hb e
    · omega
  refine ⟨F', {
    below := h.below.trans (hA.keeps.below h.below.size fun b hb => h.high hX b (.inl hb))
    ht := hH
    blk := h.blk.keeps hA.keeps h.fp
    at_ := h.at_
    le := h.le
    row := h.row.keeps hA.keeps h.fg
    map := h.map.keeps hA.keeps h.fm
    fp := hn _ h.fp h.blk.lt
    fg := hn _ h.fg h.row.lt
    fm := hn _ h.fm h.map.lt
    opl := h.opl }, hA.mono fun b hb => .inl hb⟩
/-- A block of the caller's own that a method leaves alone. -/
theorem PAfter.blk {X : Fx} {w w' : World} {F F' : Nat → Prop} {b : Nat} {cs : Array Value} {t : TypeId} (h : PAfter X w w' F F') (hB : Blk w b cs t) (h1 : ¬ F b) (h2 : b ≠ X.p) : Blk w' b cs t ∧ ¬ F' b :=
  ⟨hB.keeps h.keeps fun e => e.elim h1 h2, fun e => by
    rcases h.grow b e with e | e
    · exact h1 e
    · have := hB.lt; omega⟩
theorem PAfter.old {X : Fx} {w w' : World} {F F' : Nat → Prop} {b : Nat} (h : PAfter X w w' F F') (hlt : b < w.heap.size) (h1 : ¬ F b) : ¬ F' b := fun e => by
  rcases h.grow b e with e | e
  · exact h1 e
  · omega

/-- A panic with a fault. -/
def faultE (c : Int) (k : Nat) : Ending := .panicked [{ v := .iface 31 (.agg #[.int .i64 c, .int .i64 (k : Int)]), recovered := false }]
/-- How a method that reads ends: as the plain reader does. -/
def Out {α : Type} (X : Fx) (w : World) (op : Nat) (F : Nat → Prop) (ret : α → Ending → World → (Nat → Prop) → Prop) (R : Res α) (e : Ending) (w' : World) : Prop :=
  match R with
  | .ok x s' => ∃ a' F', ret x e w' F' ∧ PS X w' a' op s' F' ∧ PAfter X w w' F F'
  | .err c m ob tb => e = faultE c (X.l.length - m) ∧ ∃ F', HT w' X.base X.hp X.lim X.tp ob tb F' ∧ PAfter X w w' F F'
def retW (x : Wd) (e : Ending) (_ : World) (_ : Nat → Prop) : Prop := e = .returned (wd x)
end Go.Proofs.YtlibdhnlmekmhaaGreatDoor.Rd
end

/- What the cards of the reader's statements share: the variables as the row lists them, and a world that holds them. -/
section
namespace Go.Proofs.YtlibdhnlmekmhaaGreatDoor.Frame
open Go.ChangeShapes Go.WideShapes Go.ChangeAt Go.RowKit Go.Lib Go.Shelf
open Go.Proofs.YtlibdhnlmekmhaaGreatDoor.Strs Go.Proofs.YtlibdhnlmekmhaaGreatDoor.Clone Go.Proofs.YtlibdhnlmekmhaaGreatDoor.Rd

theorem own : ownKnob Tryz.prog.godebug = none := by kernel_rfl

theorem accept_eq : (Rows.laid_unicode_utf8_acceptRanges : DataW Unit) = acceptData := by kernel_rfl

/-- An interface value that reads as data. -/
theorem iface_cells {P : Program} {w : World} {fuel : Nat} {t : TypeId} {ms : Array (String × TypeId)} {cs : List Value} {d : DataW Unit} {p : List MemPlace} (ht : P.underlying t = some (.interface ms)) (h : DataW.trod (fun _ => ()) P w 0 (fun _ => true) false fuel t cs = some (d, p)) :
    ∃ ev, cs = [ev] ∧ (ev = .nilIface ∨ ∃ te pe, ev = .iface te pe) := by
  cases fuel with
  | zero => simp [DataW.trod] at h
  | succ n =>
    unfold DataW.trod at h
    rw [ht] at h
    match cs with
    | [] => simp at h
    | [ev] => cases ev <;> first | exact ⟨_, rfl, .inl rfl⟩ | exact ⟨_, rfl, .inr ⟨_, _, rfl⟩⟩ | (simp at h)
    | _ :: _ :: _ => simp at h
/-- What a row's list gives. -/
theorem sys {W : World} {l : List (String × DataW Unit)} (hl : l = Rows.readNamesRow.laid) (h : laidMet Tryz.prog l W) : Rd.Sys W := by
  subst hl
  have h4 : VarReads Tryz.prog W _ Rows.laid_unicode_utf8_acceptRanges := Lib.laidMet.reads h (.tail _ (.tail _ (.tail _ (.head _))))
  have h5 : VarReads Tryz.prog W _ Rows.laid_strconv_ErrRange := Lib.laidMet.reads h (.tail _ (.tail _ (.tail _ (.tail _ (.head _)))))
  have h3 : VarReads Tryz.prog W _ Rows.laid_unicode_utf8_first := Lib.laidMet.reads h (.tail _ (.tail _ (.tail _ (.tail _ (.tail _ (.tail _ (.head _)))))))
  rw [accept_eq] at h4
  rw [show Rows.laid_unicode_utf8_first = firstData from Pinned.utf8First_eq] at h3
  refine ⟨utf8Tabs_of_readsT (U8Types.of196 Tryz.laysValid) ⟨by kernel_rfl, by kernel_rfl, by kernel_rfl, by kernel_rfl, by kernel_rfl, by kernel_rfl, by kernel_rfl⟩ h3 h4, ?_⟩
  obtain ⟨g, t, cs, fuel, p, hg, ht, hv, hr⟩ := h5
  have hg' : g = 4 := Option.some.inj (hg.symm.trans (by kernel_rfl))
  subst hg'
  have ht' : t = 173 := Option.some.inj (ht.symm.trans (by kernel_rfl))
  subst ht'
  obtain ⟨ev, hcs, hev⟩ := iface_cells Tryz.underlying173 hr
  refine ⟨ev, ?_, hev⟩
  unfold World.var? at hv
  rw [hg] at hv
  simp only [Option.bind_some] at hv
  cases hh : W.heap[4]? with
  | none => rw [hh] at hv; cases hv
  | some o =>
    rw [hh] at hv
    cases o with
    | cells cs' ty fr =>
      simp only [Option.some.injEq] at hv
      subst hv
      have hc0 : cs'[0]? = some ev := by
        rw [← Array.getElem?_toList, hcs]
        rfl
      simp [World.cell?, hh, hc0]
    | _ => cases hv

/-- A world for the witness: the settled one, the variables holding what their text lays. -/
noncomputable def laidWorld (os : Os) : World :=
  let w0 := World.holding Tryz.prog os ⟨#[], #[], []⟩
  let put (h : Array Obj) (g : Nat) (cs : Array Value) : Array Obj := h.modify g fun
    | .cells _ t frozen => .cells cs t frozen
    | o => o
  let lits (k : IntKind) (d : DataW Unit) : Array Value := match d with
    | .agg l => (l.map fun | .lit (.int _ z) => Value.int k z | _ => Value.int k 0).toArray
    | _ => #[]
  let txt (d : DataW Unit) : Value := match d with
    | .iface _ (.ptr (.agg [.lit (.string s)])) => .string ⟨s.toArray⟩
    | _ => .nilIface
  let h1 := put w0.heap 1 (Lib.firstTab.map fun z => Value.int .u8 z).toArray
  let h2 := put h1 2 ((List.range 16).flatMap fun i => [Value.int .u8 (Lib.accLo i), Value.int .u8 (Lib.accHi i)]).toArray
  let h3 := put h2 6 (lits .u8 Rows.laid_math_bits_deBruijn32tab)
  let h4 := put h3 7 (lits .u8 Rows.laid_math_bits_deBruijn64tab)
  let h5 := put h4 5 (lits .u64 Rows.laid_internal_strconv_uint64pow10)
  let n := h5.size
  let h6 := put h5 4 #[.iface 256 (.pointer (some ⟨n, 0, none⟩))]
  let h7 := put h6 3 #[.iface 256 (.pointer (some ⟨n + 1, 0, none⟩))]
  let h8 := (h7.push (.cells #[txt Rows.laid_strconv_ErrRange] 258)).push (.cells #[txt Rows.laid_strconv_ErrSyntax] 258)
  { w0 with heap := h8 }
theorem laid_met (os : Os) (args : Array Value) {l : List (String × DataW Unit)} (hl : l = Rows.readNamesRow.laid) : laidMet Tryz.prog l ((laidWorld os).forCall (fun _ _ => 0) ⟨#[], args, []⟩).memory := by
  subst hl
  exact (LaidIn.of_run (l := Rows.readNamesRow.laid) (List.range 64) 8 (by kernel_rfl) (by kernel_rfl) (by kernel_rfl) (by kernel_rfl)).met

theorem laidOut : laidOutB Tryz.prog = true := by kernel_rfl
end Go.Proofs.YtlibdhnlmekmhaaGreatDoor.Frame
end
