/- What bindings of one variable leave. -/
import Derived.Test.YtkbdonecbepfnaaVsKit
namespace Go.Proofs.Ytkbdonecbepfnaa.Vs
open Go.Proofs.Ytkbdonecbepfnaa.Own

/-- New variables with a content for the default value of variable n, and with bindings. -/
def tS (n : Int) (c : Option Cl) (l : List Bd) : Vs := ⟨sN.has, fun j m => if j = 0 ∧ m = n then c else sN.cells j m, sN.marks, 0, l⟩
def bdD (n : Int) (j : Nat) : Bd := ⟨if j = 0 then ((0, 0), false) else ((0, (j : Int) - 1), true), n, 0⟩
def lD (n : Int) (i : Nat) : List Bd := (List.range i).map (bdD n)
/-- .. behind i bindings. -/
def dS (n : Int) (i : Nat) : Vs := tS n (if i = 0 then none else some ((0, (i : Int) - 1), true)) (lD n i)
theorem lD_length (n : Int) (i : Nat) : (lD n i).length = i := by simp [lD]
theorem lD_succ (n : Int) (i : Nat) : lD n (i + 1) = lD n i ++ [bdD n i] := by simp [lD, List.range_succ]
theorem tS_same (n : Int) (hn : 2 ≤ n) : tS n none [] = sN := by
  have h1 := sN_scope
  have h2 := sN_binds
  unfold tS
  have e : (fun j m => if j = 0 ∧ m = n then none else sN.cells j m) = sN.cells := by
    funext j m
    split
    · rename_i h
      rw [h.2, sN_cells j n hn]
    · rfl
  rw [e]
  cases hs : sN
  rw [hs] at h1 h2
  simp only at h1 h2
  subst h1 h2
  rfl
theorem dS_zero (n : Int) (hn : 2 ≤ n) : dS n 0 = sN := tS_same n hn
theorem tS_change (n : Int) (c : Option Cl) (l : List Bd) (hn : 2 ≤ n ∧ n < 16384) : changeO (tS n c l) n = 0 := by
  unfold changeO markB tS
  rw [if_pos (by omega)]
  simp only
  rw [sN_marks n hn.1]
  rfl
theorem tS_home (n m : Int) (c : Option Cl) (l : List Bd) : homeO (tS n c l) m = 0 := by
  unfold homeO isLocalB isScopeB tS
  rfl
theorem tS_content (n : Int) (c : Option Cl) (l : List Bd) : contentO (tS n c l) n 0 = c.getD ((0, 0), false) := by
  unfold contentO tS
  simp
theorem tS_get (n : Int) (c : Option Cl) (l : List Bd) : getO (tS n c l) n = c.getD ((0, 0), false) := by
  unfold getO
  rw [tS_home, tS_content]
theorem tS_put (n : Int) (c : Option Cl) (l : List Bd) (d : Cl) : putC (tS n c l) n 0 d = tS n (some d) l := by
  unfold putC tS
  simp only [Vs.mk.injEq, and_true]
  refine ⟨?_, ?_⟩
  · funext j
    rw [sN_has]
    by_cases e : j = 0 <;> simp [e]
  · funext j m
    by_cases e : j = 0 ∧ m = n <;> simp [e]
theorem dS_bind (n : Int) (i : Nat) (hn : 2 ≤ n ∧ n < 16384) (hi : i < 2000) : bindO (dS n i) n (0, (i : Int)) = (0, dS n (i + 1)) := by
  unfold bindO
  rw [show dS n i = tS n _ (lD n i) from rfl, if_pos (tS_change n _ _ hn)]
  rw [if_neg (by show ¬ 2000 ≤ (lD n i).length; rw [lD_length]; omega), tS_home, tS_content]
  refine Prod.ext rfl ?_
  show putC (tS n _ (lD n i ++ [_])) n 0 _ = _
  rw [tS_put]
  unfold dS
  rw [lD_succ]
  have e1 : bdD n i = ⟨(if i = 0 then none else some (((0, (i : Int) - 1), true) : Cl)).getD ((0, 0), false), n, 0⟩ := by
    unfold bdD
    by_cases e : i = 0 <;> simp [e]
  have e2 : (if i + 1 = 0 then none else some (((0, ((i + 1 : Nat) : Int) - 1), true) : Cl)) = some ((0, (i : Int)), true) := by
    rw [if_neg (by omega), show ((i + 1 : Nat) : Int) - 1 = (i : Int) by omega]
  rw [e1, e2]
theorem dS_full (n : Int) (x : Wd) (i : Nat) (hn : 2 ≤ n ∧ n < 16384) (hi : 2000 ≤ i) : bindO (dS n i) n x = (12, dS n i) := by
  unfold bindO
  rw [show dS n i = tS n _ (lD n i) from rfl, if_pos (tS_change n _ _ hn), if_pos (by show 2000 ≤ (lD n i).length; rw [lD_length]; exact hi)]
theorem tS_undo (n : Int) (c : Cl) (l : List Bd) (j : Nat) : undoO (tS n (some c) l) (bdD n j) = tS n (some (bdD n j).old) l := by
  unfold undoO
  rw [if_pos (by simp [tS, bdD]), show (bdD n j).n = n from rfl, show (bdD n j).k = 0 from rfl, tS_put]
theorem tS_undoL (n : Int) (k : Nat) (l : List Bd) : ∀ (i : Nat) (c : Cl), undoL (tS n (some c) l) ((lD n i).drop k).reverse = tS n (some (if k < i then (bdD n k).old else c)) l
  | 0, c => by
    rw [if_neg (by omega)]
    simp [lD, undoL]
  | i + 1, c => by
    rw [lD_succ]
    by_cases hk : k ≤ i
    · rw [List.drop_append_of_le_length (by rw [lD_length]; exact hk), List.reverse_append, List.reverse_singleton]
      show undoL (undoO (tS n (some c) l) (bdD n i)) ((lD n i).drop k).reverse = _
      rw [tS_undo, tS_undoL n k l i, if_pos (show k < i + 1 by omega)]
      by_cases e : k < i
      · rw [if_pos e]
      · obtain rfl : k = i := by omega
        rw [if_neg e]
    · rw [List.drop_of_length_le (by simp [lD_length]; omega), if_neg (by omega)]
      rfl
theorem lD_take (n : Int) (k i : Nat) (h : k ≤ i) : (lD n i).take k = lD n k := by
  unfold lD
  rw [← List.map_take, List.take_range, Nat.min_eq_left h]
/-- Variables behind the undoing down to k bindings. -/
def uS (n : Int) (i k : Nat) : Vs := tS n (some (if k < i then (bdD n k).old else ((0, (i : Int) - 1), true))) (lD n k)
theorem dS_unbind (n : Int) (i k : Nat) (hi : 0 < i) (hk : k ≤ i) : unbindO (dS n i) (k : Int) = (0, uS n i k) := by
  unfold unbindO
  have e : dS n i = tS n (some ((0, (i : Int) - 1), true)) (lD n i) := by unfold dS; rw [if_neg (by omega)]
  rw [e]
  rw [if_pos (by show 0 ≤ (k : Int) ∧ (k : Int) ≤ (lD n i).length; rw [lD_length]; omega)]
  simp only [Int.toNat_natCast]
  rw [show (tS n (some ((0, (i : Int) - 1), true)) (lD n i)).binds = lD n i from rfl, tS_undoL n k (lD n i) i, lD_take n k i hk]
  rfl
theorem uS_get (n : Int) (i k : Nat) (hi : 0 < i) (hk : k ≤ i) : getO (uS n i k) n = if k = 0 then ((0, 0), false) else ((0, (k : Int) - 1), true) := by
  unfold uS
  rw [tS_get, Option.getD_some]
  by_cases h0 : k = 0
  · subst h0
    rw [if_pos hi]
    rfl
  · rw [if_neg h0]
    by_cases e : k < i
    · rw [if_pos e]
      simp [bdD, h0]
    · obtain rfl : k = i := by omega
      rw [if_neg e]
theorem dS_good (n : Int) (i : Nat) : Good (dS n i) := by
  intro b hb _
  unfold dS tS lD at hb
  simp only [List.mem_map, List.mem_range] at hb
  obtain ⟨j, hj, rfl⟩ := hb
  simp only [dS, tS, bdD]
  rw [if_pos ⟨trivial, trivial⟩, if_neg (by omega)]
  rfl
end Go.Proofs.Ytkbdonecbepfnaa.Vs
