/- Plain mathematics for HeapHolds: a heap of a vector, a text if there is one, and conses that hold the vector's words. -/
import Derived.Test.YtcdlfgggmigcnaaDoorLives
import Derived.Test.YtcdlfgggmigcnaaDoorElem
import Derived.Test.YtcdlfgggmigcnaaDoorOf
import Derived.Test.YtcdlfgggmigcnaaDoorSetCar
namespace Go.Proofs.YtcdlfgggmigcnaaDoor.Holds
set_option maxRecDepth 100000
open Go.Lib (validD)
open Go.Proofs.YtcdlfgggmigcnaaDoor.Hp Go.Proofs.YtcdlfgggmigcnaaDoor.Rep Go.Proofs.YtcdlfgggmigcnaaDoor.Add Go.Proofs.YtcdlfgggmigcnaaDoor.Make Go.Proofs.YtcdlfgggmigcnaaDoor.Kit Go.Proofs.YtcdlfgggmigcnaaDoor.Quick Go.Proofs.YtcdlfgggmigcnaaDoor.Strs Go.Proofs.YtcdlfgggmigcnaaDoor.Car Go.Proofs.YtcdlfgggmigcnaaDoor.SetCar Go.Proofs.YtcdlfgggmigcnaaDoor.Elem

/-- The number of the first cons. -/
def low (T : Option (ByteArray × Nat)) : Nat := if T.isSome then 2 else 1
def textAt (T : Option (ByteArray × Nat)) : Option Ob := T.map fun p => .text p.1 p.2
/-- The vector m, a text if there is one, k conses: the words of l, and the cdr of each by its place. -/
def obH (m l : List Wd) (d : Nat → Wd) (T : Option (ByteArray × Nat)) (k : Nat) : Obs := fun i =>
  if i = 0 then some (.vec m) else if i < low T then textAt T else if i < low T + k then some (.cons (l[i - low T]?.getD (0, 0)) (d (i - low T))) else none
theorem low_two (T : Option (ByteArray × Nat)) : 1 ≤ low T ∧ low T ≤ 2 := by unfold low; split <;> omega
theorem obH_zero (m l : List Wd) (d : Nat → Wd) (T : Option (ByteArray × Nat)) (k : Nat) : obH m l d T k 0 = some (.vec m) := by simp [obH]
theorem obH_text (m l : List Wd) (d : Nat → Wd) (p : ByteArray × Nat) (k : Nat) : obH m l d (some p) k 1 = some (.text p.1 p.2) := by simp [obH, low, textAt]
theorem obH_cons {m l : List Wd} {d : Nat → Wd} {T : Option (ByteArray × Nat)} {k j : Nat} {y : Wd} (h : j < k) (hy : l[j]? = some y) : obH m l d T k (low T + j) = some (.cons y (d j)) := by
  have := low_two T
  unfold obH
  rw [if_neg (by omega), if_neg (by omega), if_pos (by omega), Nat.add_sub_cancel_left, hy]
  rfl
theorem obH_out {m l : List Wd} {d : Nat → Wd} {T : Option (ByteArray × Nat)} {k i : Nat} (h : low T + k ≤ i) : obH m l d T k i = none := by
  have := low_two T
  unfold obH
  rw [if_neg (by omega), if_neg (by omega), if_neg (by omega)]
theorem obH_in {m l : List Wd} {d : Nat → Wd} {T : Option (ByteArray × Nat)} {k i : Nat} (h : i < low T + k) : (obH m l d T k i).isSome = true := by
  unfold obH
  split
  · rfl
  · split
    · rename_i h0 h1
      unfold low at h1
      split at h1
      · rename_i ht
        obtain ⟨p, rfl⟩ := Option.isSome_iff_exists.1 ht
        rfl
      · omega
    · first
        | rfl
        | (rw [if_pos h]; rfl)
theorem obH_free (m l : List Wd) (d : Nat → Wd) (T : Option (ByteArray × Nat)) (k n : Nat) (h : low T + k ≤ n) : freeTo (obH m l d T k) n = low T + k :=
  freeTo_unique _ _ _ h (fun _ hi => obH_in hi) fun _ => obH_out (Nat.le_refl _)
theorem obH_start (m l : List Wd) (d : Nat → Wd) : put noObs 0 (some (.vec m)) = obH m l d none 0 := by
  funext i
  by_cases h : i = 0
  · subst h; rw [Hp.put_same, obH_zero]
  · rw [put_other _ _ _ _ h, obH_out (by unfold low; simp; omega)]; rfl
theorem obH_textPut (m l : List Wd) (d : Nat → Wd) (p : ByteArray × Nat) : put (obH m l d none 0) 1 (some (.text p.1 p.2)) = obH m l d (some p) 0 := by
  funext i
  by_cases h : i = 1
  · subst h; rw [Hp.put_same, obH_text]
  · rw [put_other _ _ _ _ h]
    by_cases h0 : i = 0
    · subst h0; rw [obH_zero, obH_zero]
    · rw [obH_out (by unfold low; simp; omega), obH_out (by unfold low; simp; omega)]
theorem obH_put (m l : List Wd) (d : Nat → Wd) (T : Option (ByteArray × Nat)) (k : Nat) (y : Wd) (hy : l[k]? = some y) : put (obH m l d T k) (low T + k) (some (.cons y (d k))) = obH m l d T (k + 1) := by
  have hl := low_two T
  funext i
  by_cases h : i = low T + k
  · subst h; rw [Hp.put_same, obH_cons (by omega) hy]
  · rw [put_other _ _ _ _ h]
    unfold obH
    split
    · rfl
    · split
      · rfl
      · by_cases h2 : i < low T + k
        · rw [if_pos h2, if_pos (by omega)]
        · rw [if_neg h2, if_neg (by omega)]
/-- All contents together stay small. -/
theorem obH_used (m l : List Wd) (d : Nat → Wd) (T : Option (ByteArray × Nat)) (k n : Nat) (hm : m.length ≤ 60) (hT : ∀ p, T = some p → p.2 ≤ 300) : usedTo (obH m l d T k) n ≤ 360 := by
  have key : ∀ n, usedTo (obH m l d T k) n ≤ (if 0 < n then 60 else 0) + (if 1 < n then 300 else 0) := by
    intro n
    induction n with
    | zero => simp [usedTo]
    | succ n ih =>
      simp only [usedTo]
      by_cases h0 : n = 0
      · subst h0
        rw [obH_zero]
        simp only [sizeO, Ob.size, usedTo]
        simp
        exact hm
      · by_cases h1 : n = 1
        · subst h1
          have hs : sizeO (obH m l d T k 1) ≤ 300 := by
            unfold obH
            rw [if_neg (by omega)]
            split
            · cases T with
              | none => simp [textAt, sizeO]
              | some p => simpa [textAt, sizeO, Ob.size] using hT p rfl
            · split <;> simp [sizeO, Ob.size]
          simp at ih ⊢
          omega
        · have hs : sizeO (obH m l d T k n) = 0 := by
            have := low_two T
            unfold obH
            rw [if_neg (by omega), if_neg (by omega)]
            split <;> rfl
          rw [hs]
          rw [if_pos (by omega), if_pos (by omega)] at ih ⊢
          omega
  have := key n
  split at this <;> split at this <;> omega
theorem obH_add (m l : List Wd) (d : Nat → Wd) (T : Option (ByteArray × Nat)) (k : Nat) (y : Wd) (hy : l[k]? = some y) (hk : k < 60) (hm : m.length ≤ 60) (hT : ∀ p, T = some p → p.2 ≤ 300) :
    addO (obH m l d T k) 200 (.cons y (d k)) = ((2, ((low T + k : Nat) : Int)), 0, obH m l d T (k + 1)) := by
  have hl := low_two T
  have hu := obH_used m l d T k 200 hm hT
  unfold addO
  rw [obH_free m l d T k 200 (by omega), if_pos ⟨by omega, by simp only [Ob.size]; omega⟩, obH_put m l d T k y hy]
  rfl
theorem obH_find {m l : List Wd} {d : Nat → Wd} {T : Option (ByteArray × Nat)} {k j : Nat} {y : Wd} (h : j < k) (hy : l[j]? = some y) : findO (obH m l d T k) (2, ((low T + j : Nat) : Int)) = some (.cons y (d j)) :=
  findO_mk (by simp; omega) (by rw [show ((2, ((low T + j : Nat) : Int)) : Wd).2.toNat = low T + j from Int.toNat_natCast _]; exact obH_cons h hy) rfl
theorem obH_findV (m l : List Wd) (d : Nat → Wd) (T : Option (ByteArray × Nat)) (k : Nat) : findO (obH m l d T k) (4, 0) = some (.vec m) := findO_mk (by simp) (obH_zero m l d T k) rfl
theorem obH_car {m l : List Wd} {d : Nat → Wd} {T : Option (ByteArray × Nat)} {k j : Nat} {y : Wd} (h : j < k) (hy : l[j]? = some y) : carO (obH m l d T k) (2, ((low T + j : Nat) : Int)) = (y, 0) := by
  unfold carO
  rw [if_neg (by intro e; simp at e), obH_find h hy]
theorem obH_cdr {m l : List Wd} {d : Nat → Wd} {T : Option (ByteArray × Nat)} {k j : Nat} {y : Wd} (h : j < k) (hy : l[j]? = some y) : cdrO (obH m l d T k) (2, ((low T + j : Nat) : Int)) = (d j, 0) := by
  unfold cdrO
  rw [if_neg (by intro e; simp at e), obH_find h hy]
theorem obH_setAt (l : List Wd) (d : Nat → Wd) (T : Option (ByteArray × Nat)) (n k : Nat) (x : Wd) (hk : k < l.length) : setAtO (obH l l d T n) (4, 0) (k : Int) x = (0, obH (l.set k x) l d T n) := by
  unfold setAtO
  rw [obH_findV]
  simp only
  rw [if_neg (by omega), Int.toNat_natCast]
  refine congrArg (Prod.mk 0) (funext fun i => ?_)
  show put (obH l l d T n) 0 _ i = _
  by_cases h : i = 0
  · subst h; rw [Hp.put_same, obH_zero]
  · rw [put_other _ _ _ _ h]
    unfold obH
    rw [if_neg h, if_neg h]
theorem obH_setCdr (m l : List Wd) (d : Nat → Wd) (T : Option (ByteArray × Nat)) (n k : Nat) (x y : Wd) (hk : k < n) (hy : l[k]? = some y) :
    setCdrO (obH m l d T n) (2, ((low T + k : Nat) : Int)) x = (0, obH m l (fun j => if j = k then x else d j) T n) := by
  have hl := low_two T
  unfold setCdrO
  rw [obH_find hk hy]
  simp only
  rw [Int.toNat_natCast]
  refine congrArg (Prod.mk 0) (funext fun i => ?_)
  by_cases h : i = low T + k
  · subst h
    rw [Hp.put_same, obH_cons hk hy, if_pos rfl]
  · rw [put_other _ _ _ _ h]
    unfold obH
    split
    · rfl
    · split
      · rfl
      · split
        · show _ = some (Ob.cons _ (if i - low T = k then x else d (i - low T)))
          rw [if_neg (by omega)]
        · rfl
theorem obH_vecOf (m l : List Wd) (d : Nat → Wd) (T : Option (ByteArray × Nat)) (n : Nat) : vecOfO (obH m l d T n) (4, 0) = (m, 0) := by
  unfold vecOfO
  rw [obH_findV]
theorem obH_textOf (m l : List Wd) (d : Nat → Wd) (p : ByteArray × Nat) (n : Nat) : textOfO (obH m l d (some p) n) (3, 1) = (p.1, 0) := by
  unfold textOfO
  rw [show findO (obH m l d (some p) n) (3, 1) = some (.text p.1 p.2) from findO_mk (by simp) (obH_text m l d p n) rfl]
end Go.Proofs.YtcdlfgggmigcnaaDoor.Holds
