/- Maps from ints to values in memory, each by the function that it is. -/
import Derived.Test.YtkbdonecbepfnaaRows
import Derived.Test.YtkbdonecbepfnaaOwn
import Derived.Maps.OwnSet
import Derived.Maps.AppendAt
import Derived.WalkKit
namespace Go.Proofs.Ytkbdonecbepfnaa.Vs
open Go.RowKit Go.Maps
open Go.Proofs.Ytkbdonecbepfnaa.Own

theorem law : Keyed Try.prog 3 := int_keyed Try.underlying3
/-- An element is read as the value that it is. -/
def heldR (v : Value) : Option (DataW Value × List MemPlace) := some (.held v, [])
abbrev ki (x : Int) : Lit := .int .i64 x
def Wf (x : Int) : Prop := -9223372036854775808 ≤ x ∧ x ≤ 9223372036854775807
theorem Wf.lit {x : Int} (h : Wf x) : (Lit.int .i64 x).wf = true := by
  have hmin : IntKind.i64.min = -9223372036854775808 := rfl
  simp [Lit.wf]
  unfold Wf at h
  omega
theorem Wf.key {x : Int} (h : Wf x) : keyOf Try.prog 3 (.int .i64 x) = some (ki x) := keyOf_int_mk Try.underlying3 h.lit
theorem ki_inj {x y : Int} (h : ki x = ki y) : x = y := by simpa using h

def upd (F : Int → Option Value) (x : Int) (v : Option Value) : Int → Option Value := fun y => if y = x then v else F y

theorem nodup_len : ∀ (M : Nat) (l : List Int), l.Nodup → (∀ x ∈ l, 0 ≤ x ∧ x < (M : Int)) → l.length ≤ M
  | 0, l, _, h => by
    cases l with
    | nil => simp
    | cons x l => have := h x (by simp); omega
  | M + 1, l, hn, h => by
    have h1 := nodup_len M (l.erase (M : Int)) (hn.erase _) fun x hx => by
      have h2 := (List.Nodup.mem_erase_iff hn).1 hx
      have h3 := h x h2.2
      have h4 := h2.1
      omega
    have h5 := List.length_erase (a := (M : Int)) (l := l)
    split at h5 <;> omega

/-- Block b is a map that is the function F. -/
def MapOf (w : World) (b : Nat) (F : Int → Option Value) : Prop :=
  ∃ (D : DataW Value) (ks : List Int), w.ownsMap Try.prog 3 heldR b (size D) D ∧ size D = ks.length ∧ ks.Nodup ∧ (∀ x, x ∈ ks ↔ (F x).isSome = true) ∧ (∀ x, has D (ki x) = (F x).isSome) ∧
    (∀ x z, D.atKey (ki x) (.held z) = .held ((F x).getD z)) ∧ ∀ x, (F x).isSome = true → 0 ≤ x ∧ x ≤ 65536

theorem owns_size {w : World} {b n : Nat} {D : DataW Value} (h : w.ownsMap Try.prog 3 heldR b n D) : w.ownsMap Try.prog 3 heldR b (size D) D := by
  obtain ⟨es, clock, hb, F, hs, rfl⟩ := h
  exact ⟨es, clock, hb, F, by simp [size, length_sorted], rfl⟩
theorem MapOf.lt {w : World} {b : Nat} {F : Int → Option Value} (h : MapOf w b F) : b < w.heap.size := by
  obtain ⟨D, ks, h, _⟩ := h
  exact h.lt
theorem MapOf.keeps {G : Nat → Prop} {w w' : World} {b : Nat} {F : Int → Option Value} (h : MapOf w b F) (hk : Keeps G w w') (hb : ¬ G b) : MapOf w' b F := by
  have hlt := h.lt
  obtain ⟨D, ks, ⟨es, clock, h1, r⟩, r2⟩ := h
  exact ⟨D, ks, ⟨es, clock, (hk.block b hlt hb).trans h1, r⟩, r2⟩
theorem MapOf.below {w w' : World} {b : Nat} {F : Int → Option Value} (h : MapOf w b F) (hk : Below w.heap.size w w') : MapOf w' b F :=
  h.keeps (G := fun _ => False) (.of_below hk) id
theorem MapOf.made (w : World) : MapOf (w.alloc (.map #[] 0)) w.heap.size (fun _ => none) :=
  ⟨.map [], [], World.ownsMap_made w _ _ _, rfl, List.nodup_nil, by simp, fun _ => rfl, fun _ _ => rfl, by simp⟩
theorem MapOf.congr {w : World} {b : Nat} {F G : Int → Option Value} (h : MapOf w b F) (e : ∀ x, F x = G x) : MapOf w b G := by
  rw [← (funext e : F = G)]
  exact h

/-- 'm[x]'. -/
theorem MapOf.look {w : World} {b : Nat} {F : Int → Option Value} (h : MapOf w b F) {t e : TypeId} (ht : Try.prog.underlying t = some (.map 3 e)) {z : Value} (hz : (zeroValue e).run Try.prog w = .ok z w) {x : Int} (hx : Wf x) :
    (Instr.lookup t (.map (some b)) (.int .i64 x) false).run Try.prog w = .ok ((F x).getD z) w := by
  obtain ⟨D, ks, ho, _, _, _, _, h2, _⟩ := h
  obtain ⟨v, ps, hrun, hv⟩ := ho.lookup law ht hz (zd := .held z) (zp := []) rfl hx.key
  rw [h2 x z] at hv
  simp only [heldR, Option.some.injEq, Prod.mk.injEq, DataW.held.injEq] at hv
  rw [hrun, hv.1]
theorem MapOf.count {w : World} {b : Nat} {F : Int → Option Value} (h : MapOf w b F) {t e : TypeId} (ht : Try.prog.underlying t = some (.map 3 e)) (ty : TypeId) :
    ∃ m : Nat, (Builtin.len_ #[t] ty #[.map (some b)]).run Try.prog w = .ok (.int .i64 (m : Int)) w ∧ (m = 0 ↔ ∀ x, F x = none) ∧ m ≤ 65537 := by
  obtain ⟨D, ks, ho, hs, hn, hk, _, _, hr⟩ := h
  refine ⟨size D, ho.len ht ty, ?_, ?_⟩
  · rw [hs]
    constructor
    · intro h0 x
      have := hk x
      rw [List.eq_nil_of_length_eq_zero h0] at this
      simpa using this
    · intro h0
      cases ks with
      | nil => rfl
      | cons x l =>
        have := (hk x).1 (by simp)
        rw [h0 x] at this
        cases this
  · rw [hs]
    exact nodup_len 65537 ks hn fun x hx => by have := hr x ((hk x).1 hx); omega
theorem MapOf.room {D : DataW Value} {ks : List Int} {F : Int → Option Value} (hs : size D = ks.length) (hn : ks.Nodup) (hk : ∀ x, x ∈ ks ↔ (F x).isSome = true) (hr : ∀ x, (F x).isSome = true → 0 ≤ x ∧ x ≤ 65536) : size D < maxLen := by
  have := nodup_len 65537 ks hn fun x hx => by have := hr x ((hk x).1 hx); omega
  unfold maxLen
  omega
/-- 'm[x] = v'. -/
theorem MapOf.store {w : World} {b : Nat} {F : Int → Option Value} (h : MapOf w b F) {t e : TypeId} (ht : Try.prog.underlying t = some (.map 3 e)) {x : Int} (hx : 0 ≤ x ∧ x ≤ 65536) (v : Value) :
    ∃ w', (Instr.mapUpdate t (.map (some b)) (.int .i64 x) v).run Try.prog w = .ok () w' ∧ MapOf w' b (upd F x (some v)) ∧ w.grownBy w' (some b) := by
  obtain ⟨D, ks, ho, hs, hn, hk, h1, h2, hr⟩ := h
  have hwf : Wf x := by unfold Wf; omega
  have htidy := ho.tidy law
  have hkey : WideAt.IsKeyLit (ki x) := trivial
  obtain ⟨w', hrun, ho', hg⟩ := ho.update law ht (MapOf.room hs hn hk hr) hwf.key (val := v) (d := .held v) (ps := []) rfl
  refine ⟨w', hrun, ⟨_, if (F x).isSome then ks else x :: ks, owns_size ho', ?_, ?_, fun y => ?_, fun y => ?_, fun y z => ?_, fun y => ?_⟩, hg⟩
  · rw [size_put htidy, h1 x, hs]
    cases (F x).isSome <;> simp
  · cases hf : (F x).isSome
    · simp only [Bool.false_eq_true, if_false, List.nodup_cons]
      exact ⟨(fun hm => by rw [(hk x).1 hm] at hf; cases hf), hn⟩
    · simpa using hn
  · by_cases e : y = x
    · subst e
      cases hf : (F y).isSome
      · simp [upd]
      · simpa [upd, hf] using hk y
    · cases hf : (F x).isSome
      · simp [upd, e, hk y]
      · simp [upd, e, hk y]
  · by_cases e : y = x
    · subst e
      rw [has_put_same ho.isMap hkey]
      simp [upd]
    · rw [has_put_other (fun h => e (ki_inj h)), h1 y]
      simp [upd, e]
  · by_cases e : y = x
    · subst e
      rw [atKey_put_same ho.isMap hkey]
      simp [upd]
    · rw [atKey_put_other (fun h => e (ki_inj h)), h2 y]
      simp [upd, e]
  · by_cases e : y = x
    · subst e
      intro _
      exact hx
    · simp only [upd, e, if_false]
      exact hr y
/-- 'delete(m, x)'. -/
theorem MapOf.drop {w : World} {b : Nat} {F : Int → Option Value} (h : MapOf w b F) {t e : TypeId} (ht : Try.prog.underlying t = some (.map 3 e)) {x : Int} (hx : Wf x) (ty : TypeId) :
    ∃ w', (Builtin.delete_ #[t, 3] ty #[.map (some b), .int .i64 x]).run Try.prog w = .ok (.tuple #[]) w' ∧ MapOf w' b (upd F x none) ∧ w.grownBy w' (some b) := by
  obtain ⟨D, ks, ho, hs, hn, hk, h1, h2, hr⟩ := h
  have htidy := ho.tidy law
  obtain ⟨w', hrun, ho', hg⟩ := ho.drop law ht hx.key ty
  refine ⟨w', hrun, ⟨_, ks.erase x, owns_size ho', ?_, hn.erase _, fun y => ?_, fun y => ?_, fun y z => ?_, fun y => ?_⟩, hg.grown⟩
  · have hd := size_del (k := ki x) htidy
    rw [h1 x, hs] at hd
    rw [List.length_erase]
    by_cases hm : x ∈ ks
    · rw [if_pos hm]
      rw [if_pos ((hk x).1 hm)] at hd
      omega
    · rw [if_neg hm]
      rw [if_neg (fun hh => hm ((hk x).2 hh))] at hd
      omega
  · rw [List.Nodup.mem_erase_iff hn]
    by_cases e : y = x
    · subst e
      simp [upd]
    · simp [upd, e, hk y]
  · by_cases e : y = x
    · subst e
      rw [has_del_same]
      simp [upd]
    · rw [has_del_other (fun h => e (ki_inj h)), h1 y]
      simp [upd, e]
  · by_cases e : y = x
    · subst e
      rw [atKey_del_same]
      simp [upd]
    · rw [atKey_del_other (fun h => e (ki_inj h)), h2 y]
      simp [upd, e]
  · by_cases e : y = x
    · subst e
      simp [upd]
    · simp only [upd, e, if_false]
      exact hr y
/-- A nil map. -/
theorem look_nil (w : World) {t e : TypeId} (ht : Try.prog.underlying t = some (.map 3 e)) {z : Value} (hz : (zeroValue e).run Try.prog w = .ok z w) {x : Int} (hx : Wf x) :
    (Instr.lookup t (.map none) (.int .i64 x) false).run Try.prog w = .ok z w := Maps.look_nil false law ht hz hx.key
theorem drop_nil (w : World) {t e : TypeId} (ht : Try.prog.underlying t = some (.map 3 e)) {x : Int} (hx : Wf x) (ty : TypeId) :
    (Builtin.delete_ #[t, 3] ty #[.map none, .int .i64 x]).run Try.prog w = .ok (.tuple #[]) w := Maps.drop_nil law ht hx.key ty
theorem len_nil (w : World) {t e : TypeId} (ht : Try.prog.underlying t = some (.map 3 e)) (ty : TypeId) : (Builtin.len_ #[t] ty #[.map none]).run Try.prog w = .ok (.int .i64 0) w := Maps.len_nil ht ty
theorem keeps_grown {w w' : World} {b : Nat} (h : w.grownBy w' (some b)) : Keeps (fun k => k = b) w w' :=
  ⟨h.os, h.tape, h.output, h.size, fun k hk hn => h.block k hk (fun e => hn (by simpa using e))⟩

theorem mapT1 : Try.prog.underlying 52 = some (.map 3 66) := Try.underlying52
theorem mapT2 : Try.prog.underlying 66 = some (.map 3 67) := Try.underlying66
theorem mapT3 : Try.prog.underlying 53 = some (.map 3 59) := Try.underlying53
theorem zero1 (w : World) : (zeroValue 66).run Try.prog w = .ok (.map none) w := by kernel_rfl
theorem zero2 (w : World) : (zeroValue 67).run Try.prog w = .ok (.pointer none) w := by kernel_rfl
theorem zero3 (w : World) : (zeroValue 59).run Try.prog w = .ok (.int .u8 0) w := by kernel_rfl
end Go.Proofs.Ytkbdonecbepfnaa.Vs
