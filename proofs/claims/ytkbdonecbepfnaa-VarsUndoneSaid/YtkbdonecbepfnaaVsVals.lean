/- The values of variables, plainly. -/
import Derived.Test.YtkbdonecbepfnaaVsKeys
namespace Go.Proofs.Ytkbdonecbepfnaa.Vs
open Go.RowKit Go.Maps
open Go.Proofs.Ytkbdonecbepfnaa.Own

/-- What a cell contains, if it is there. -/
def cont (s : Vs) (k n : Int) : Cl := (s.cells k n).getD ((0, 0), false)
/-- All keys that a map may have. -/
def allKeys : List Int := (List.range 65537).map fun n : Nat => (n : Int)
theorem mem_allKeys (x : Int) : x ∈ allKeys ↔ 0 ≤ x ∧ x ≤ 65536 := by
  unfold allKeys
  rw [List.mem_map]
  constructor
  · rintro ⟨n, hn, rfl⟩
    rw [List.mem_range] at hn
    omega
  · intro h
    exact ⟨x.toNat, List.mem_range.2 (by omega), by omega⟩
theorem allKeys_sorted : allKeys.Pairwise (· < ·) := by
  unfold allKeys
  rw [List.pairwise_map]
  exact List.pairwise_lt_range.imp fun h => by omega
theorem allKeys_length : allKeys.length = 65537 := by
  unfold allKeys
  rw [List.length_map, List.length_range]
theorem flatMap_filter_nil {α β : Type} (p : α → Bool) (f : α → List β) (hf : ∀ x, p x = false → f x = []) : ∀ l : List α, (l.filter p).flatMap f = l.flatMap f
  | [] => rfl
  | x :: l => by
    cases h : p x with
    | false => rw [List.filter_cons_of_neg (by simp [h]), List.flatMap_cons, hf x h, List.nil_append, flatMap_filter_nil p f hf l]
    | true => rw [List.filter_cons_of_pos h, List.flatMap_cons, List.flatMap_cons, flatMap_filter_nil p f hf l]
theorem KeysOf.filter {F : Int → Option Value} {l : List Int} (h : KeysOf F l) : l = allKeys.filter fun x => (F x).isSome := by
  have h1 : (allKeys.filter fun x => (F x).isSome).Pairwise (· < ·) := allKeys_sorted.sublist List.filter_sublist
  have hp : l.Perm (allKeys.filter fun x => (F x).isSome) := by
    refine (List.perm_ext_iff_of_nodup (h.sorted.imp fun hlt e => by omega) (h1.imp fun hlt e => by omega)).2 fun x => ?_
    rw [List.mem_filter, mem_allKeys, h.mem x]
    exact ⟨fun hx => ⟨h.range x ((h.mem x).2 hx), hx⟩, fun hx => hx.2⟩
  exact hp.eq_of_pairwise (le := fun a b => a < b) (fun a b _ _ h1 h2 => by omega) h.sorted h1
theorem KeysOf.flatMap {F : Int → Option Value} {l : List Int} (h : KeysOf F l) {α : Type} (f : Int → List α) (hf : ∀ x, F x = none → f x = []) : l.flatMap f = allKeys.flatMap f := by
  rw [h.filter]
  exact flatMap_filter_nil _ f (fun x hx => hf x (by simpa using hx)) _

/-- The values in scope k, and those of all scopes, and those that bindings recorded. -/
def valsIn (s : Vs) (k : Int) : List Wd := allKeys.flatMap fun n => opt (cont s k n)
def valsC (s : Vs) : List Wd := allKeys.flatMap fun k => valsIn s k
def recs (l : List Bd) : List Wd := l.flatMap fun b => opt b.old
theorem opt_len (c : Cl) : (opt c).length ≤ 1 := by
  unfold opt
  split <;> simp
theorem flatMap_len {α β : Type} (f : α → List β) (m : Nat) (hf : ∀ x, (f x).length ≤ m) : ∀ l : List α, (l.flatMap f).length ≤ l.length * m
  | [] => by simp
  | x :: l => by
    rw [List.flatMap_cons, List.length_append, List.length_cons, Nat.succ_mul]
    have := flatMap_len f m hf l
    have := hf x
    omega
theorem valsIn_len (s : Vs) (k : Int) : (valsIn s k).length ≤ 65537 := by
  have := flatMap_len (fun n => opt (cont s k n)) 1 (fun _ => opt_len _) allKeys
  rw [allKeys_length] at this
  unfold valsIn
  omega
theorem valsC_len (s : Vs) : (valsC s).length ≤ 65537 * 65537 := by
  have := flatMap_len (fun k => valsIn s k) 65537 (fun _ => valsIn_len s _) allKeys
  rw [allKeys_length] at this
  exact this
theorem recs_len (l : List Bd) : (recs l).length ≤ l.length := by
  have := flatMap_len (fun b : Bd => opt b.old) 1 (fun _ => opt_len _) l
  unfold recs
  omega
theorem inner_keys {s : Vs} {P : VParts} {k : Int} {l : List Int} (h : KeysOf (innF s P k) l) : (l.flatMap fun n => opt (cont s k n)) = valsIn s k :=
  h.flatMap _ fun n hn => by
    have : s.cells k n = none := by simpa [innF] using hn
    simp [cont, this, opt]
theorem outer_keys {s : Vs} {P : VParts} {l : List Int} (hc : ∀ k n c, s.cells k n = some c → s.has k = true) (h : KeysOf (outF s P) l) : (l.flatMap fun k => valsIn s k) = valsC s :=
  h.flatMap _ fun k hk => by
    have hh : s.has k = false := by
      cases hx : s.has k with
      | false => rfl
      | true => simp [outF, hx] at hk
    have hn : ∀ n, s.cells k n = none := fun n => by
      cases hx : s.cells k n with
      | none => rfl
      | some c => have := hc k n c hx; rw [hh] at this; cases this
    unfold valsIn
    refine List.flatMap_eq_nil_iff.2 fun n _ => ?_
    simp [cont, hn n, opt]
theorem flatMap_congr_mem {α β : Type} (f g : α → List β) : ∀ l : List α, (∀ x ∈ l, f x = g x) → l.flatMap f = l.flatMap g
  | [], _ => rfl
  | x :: l, h => by rw [List.flatMap_cons, List.flatMap_cons, h x (by simp), flatMap_congr_mem f g l fun y hy => h y (by simp [hy])]
/-- Values depend on what the cells contain. -/
theorem valsC_congr {s t : Vs} (h : ∀ k n, 0 ≤ k ∧ k ≤ 65536 → opt (cont s k n) = opt (cont t k n)) : valsC s = valsC t :=
  flatMap_congr_mem _ _ allKeys fun k hk => flatMap_congr_mem _ _ allKeys fun n _ => h k n ((mem_allKeys k).1 hk)
theorem take_flatMap {α β : Type} (l : List α) (f : α → List β) (j : Nat) (x : α) (h : l[j]? = some x) : (l.take (j + 1)).flatMap f = (l.take j).flatMap f ++ f x := by
  rw [List.take_add_one, h]
  simp [List.flatMap_append]
theorem take_len {α β : Type} (l : List α) (f : α → List β) (m j : Nat) (hf : ∀ x, (f x).length ≤ m) : ((l.take j).flatMap f).length ≤ l.length * m :=
  Nat.le_trans (flatMap_len f m hf _) (Nat.mul_le_mul_right _ (List.length_take_le' _ _))
end Go.Proofs.Ytkbdonecbepfnaa.Vs
