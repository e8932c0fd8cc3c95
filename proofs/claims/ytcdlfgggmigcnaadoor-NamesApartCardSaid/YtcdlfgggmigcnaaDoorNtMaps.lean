/- A map from names to numbers in memory, by the function that it is. -/
import Derived.Test.YtcdlfgggmigcnaaDoorRows
import Derived.Test.YtcdlfgggmigcnaaDoorOwn
import Derived.Maps.OwnSet
import Derived.Maps.AppendAt
import Derived.StringKeys
import Derived.WalkKit
import Derived.Deep.QuietTactic
namespace Go
/-- A store into a map, as one step of a region that draws. -/
theorem step_mapUpdate {P : Program} {ops : Array Oper} {o : Oper} {a : Act} {w : World} {K : Act → World → Prop} {Q : Exit → Act → World → Prop} {E : Prop}
    (hg : o.guard = none) (m x v : Operand) (t : TypeId) (hop : o.op = Op.mapUpdate t m x v) (mv key val : Value) (hm : a.eval m = mv) (hx : a.eval x = key) (hv : a.eval v = val) (w' : World)
    (hrun : (Instr.mapUpdate t mv key val).run P w = .ok () w') (hK : K (a.put o.dst undef) w') :
    if Region.wanted o (yielded ops a.tmps) = true then Oper.wp P o a w K Q else E := by
  have hw : Region.wanted o (yielded ops a.tmps) = true := by simp [Region.wanted, hg]
  rw [if_pos hw]
  unfold Oper.wp
  simp [execOp, hop, hm, hx, hv, hrun, Result.andThen]
  exact hK
end Go
namespace Go.Proofs.YtcdlfgggmigcnaaDoor.Nt
open Go.RowKit Go.Maps Go.WideMaps
open Go.Proofs.YtcdlfgggmigcnaaDoor.Own

theorem law : Keyed Tryd.prog 9 := string_keyed Tryd.underlying9
theorem zeroInt (w : World) : (zeroValue 3).run Tryd.prog w = .ok (.int .i64 0) w := by kernel_rfl

/-- What a name reads as. -/
abbrev kl (s : ByteArray) : Lit := .string s.data.toList
theorem kl_inj {s u : ByteArray} (h : kl s = kl u) : s = u := by
  have h1 : s.data.toList = u.data.toList := by simpa using h
  have h2 : s.data = u.data := by
    rw [← Array.toArray_toList (xs := s.data), ← Array.toArray_toList (xs := u.data), h1]
  cases s; cases u; simp_all

def upd (F : ByteArray → Option Nat) (s : ByteArray) (n : Nat) : ByteArray → Option Nat := fun u => if u = s then some n else F u

/-- Block b is a map of at most n names that is the function F. -/
def MapIs (w : World) (b : Nat) (F : ByteArray → Option Nat) (n : Nat) : Prop :=
  ∃ D : DataW Unit, w.ownsMap Tryd.prog 9 (plainElem Tryd.prog 3) b n D ∧ (∀ s, Maps.has D (kl s) = (F s).isSome) ∧ ∀ s, D.atKey (kl s) (.lit (.int .i64 0)) = .lit (.int .i64 (((F s).getD 0 : Nat) : Int))

theorem MapIs.lt {w : World} {b n : Nat} {F : ByteArray → Option Nat} (h : MapIs w b F n) : b < w.heap.size := by
  obtain ⟨D, h, _⟩ := h
  exact h.lt
theorem MapIs.mono {w : World} {b n m : Nat} {F : ByteArray → Option Nat} (h : MapIs w b F n) (hm : n ≤ m) : MapIs w b F m := by
  obtain ⟨D, h, r⟩ := h
  exact ⟨D, h.mono hm, r⟩
theorem MapIs.keeps {G : Nat → Prop} {w w' : World} {b n : Nat} {F : ByteArray → Option Nat} (h : MapIs w b F n) (hk : Keeps G w w') (hb : ¬ G b) : MapIs w' b F n := by
  have hlt := h.lt
  obtain ⟨D, ⟨es, clock, h1, r⟩, r2⟩ := h
  exact ⟨D, ⟨es, clock, (hk.block b hlt hb).trans h1, r⟩, r2⟩
theorem MapIs.made (w : World) : MapIs (w.alloc (.map #[] 0)) w.heap.size (fun _ => none) 0 :=
  ⟨_, World.ownsMap_made w _ _ _, fun _ => rfl, fun _ => rfl⟩

/-- 'v, ok := m[s]'. -/
theorem MapIs.look {w : World} {b n : Nat} {F : ByteArray → Option Nat} (h : MapIs w b F n) (s : ByteArray) (hs : s.size ≤ maxLen) :
    (Instr.lookup 139 (.map (some b)) (.string s) true).run Tryd.prog w = .ok (.tuple #[.int .i64 (((F s).getD 0 : Nat) : Int), .bool (F s).isSome]) w := by
  obtain ⟨D, ho, h1, h2⟩ := h
  obtain ⟨v, ps, hrun, hv⟩ := ho.look_ok law Tryd.underlying139 (zeroInt w) (plainElem_int Tryd.underlying3 (by decide)) (keyOf_string_mk Tryd.underlying9 hs)
  obtain ⟨c, rfl, hc, _⟩ := plainElem_int_inv Tryd.underlying3 hv
  have hc1 := congrArg Prod.fst hc
  simp only at hc1
  rw [h2 s] at hc1
  simp only [DataW.lit.injEq, Lit.int.injEq, true_and] at hc1
  rw [hrun, h1 s, hc1]
/-- 'm[s] = k'. -/
theorem MapIs.store {w : World} {b n : Nat} {F : ByteArray → Option Nat} (h : MapIs w b F n) (hn : n < maxLen) (s : ByteArray) (hs : s.size ≤ maxLen) (k : Nat) (hk : k ≤ 9223372036854775807) :
    ∃ w', (Instr.mapUpdate 139 (.map (some b)) (.string s) (.int .i64 (k : Int))).run Tryd.prog w = .ok () w' ∧ MapIs w' b (upd F s k) (n + 1) ∧ w.grownBy w' (some b) := by
  obtain ⟨D, ho, h1, h2⟩ := h
  have hwf : (Lit.int .i64 (k : Int)).wf = true := by
    have hmin : IntKind.i64.min = -9223372036854775808 := rfl
    simp [Lit.wf]
    omega
  obtain ⟨w', hrun, ho', hg⟩ := ho.update law Tryd.underlying139 hn (keyOf_string_mk Tryd.underlying9 hs) (plainElem_int Tryd.underlying3 hwf)
  have hkey : WideAt.IsKeyLit (kl s) := trivial
  refine ⟨w', hrun, ⟨_, ho', fun u => ?_, fun u => ?_⟩, hg⟩
  · by_cases e : u = s
    · subst e
      rw [has_put_same ho.isMap hkey]
      simp [upd]
    · rw [has_put_other (fun h => e (kl_inj h)), h1 u]
      simp [upd, e]
  · by_cases e : u = s
    · subst e
      rw [atKey_put_same ho.isMap hkey]
      simp [upd]
    · rw [atKey_put_other (fun h => e (kl_inj h)), h2 u]
      simp [upd, e]
theorem keeps_of_grown {w w' : World} {b : Nat} (h : w.grownBy w' (some b)) : Keeps (fun k => k = b) w w' :=
  ⟨h.os, h.tape, h.output, h.size, fun k hk hn => h.block k hk (fun e => hn (by simpa using e))⟩
end Go.Proofs.YtcdlfgggmigcnaaDoor.Nt
