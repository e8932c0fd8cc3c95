/- Slices of strings and of bools that came in as arguments. | A slice of ints, or of bools, that came in. | The contract of digits. | String literals as ReadStrings writes them, and what Read answers. | The contract of hex. | The contracts of element, At, SetAt, VecOf, TextOf, CodeOf and Live. -/
import Derived.SliceStrings
import Derived.Lib.SmallJoins
import Derived.Deep.Grids
import Derived.ChangeArms
import Derived.LoopTactic
import Derived.Outline
import Derived.Deep.LoopGhost
import Derived.Deep.OwnRows
import Derived.Test.YtlibdhnlmekmhaaGreatDoorMh22
import Derived.Test.YtlibdhnlmekmhaaGreatDoorMh24
import Derived.Test.YtlibdhnlmekmhaaGreatDoorMh41
import Derived.Test.YtlibdhnlmekmhaaGreatDoorMh42
import Derived.Test.YtlibdhnlmekmhaaGreatDoorMh43
/- Slices of strings and of bools that came in as arguments. -/
section
namespace Go.Proofs.YtlibdhnlmekmhaaGreatDoor.NtArgs
set_option maxRecDepth 100000
open Go.ChangeShapes Go.WideShapes Go.ChangeAt Go.RowKit Go.Deep
open Go.Proofs.YtlibdhnlmekmhaaGreatDoor.Clone

/-- Cells that lie one behind the other, by their places. -/
theorem one_at {W : World} {a : Addr} {n : Nat} {f : Nat → Value} (h : ∀ i, i < n → W.cell? (a.add i) = some (f i)) (h0 : 0 < n) : ∃ b off, a = ⟨b, off, none⟩ ∧ ∀ i, i < n → W.cell? ⟨b, off + i, none⟩ = some (f i) := by
  obtain ⟨b, off, spot⟩ := a
  have hspot : spot = none := by simpa [Addr.add] using World.cell?_spot (h 0 h0)
  subst hspot
  refine ⟨b, off, rfl, fun i hi => ?_⟩
  have := h i hi
  rwa [Go.WideShapes.add_plain] at this
theorem slr_of {W : World} {a : Addr} {n c : Nat} {xs : List Value} (h : ∀ i u, xs[i]? = some u → W.cell? (a.add i) = some u) (hn : xs.length = n) (hc : n ≤ c) : SlR W (.slice (some a) n c) n xs := by
  refine ⟨some a, c, rfl, hc, fun h0 => ?_⟩
  obtain ⟨b, off, ha, hh⟩ := one_at (W := W) (a := a) (n := n) (f := fun i => xs.getD i undef) (fun i hi => h i _ (by simp [List.getD, List.getElem?_eq_getElem (show i < xs.length by omega)])) h0
  refine ⟨b, off, by rw [ha], fun j u hj => ?_⟩
  have := hh j (by rw [← hn]; exact (List.getElem?_eq_some_iff.1 hj).1)
  rw [this]
  simp [List.getD, hj]
set_option maxRecDepth 100000 in
theorem strs_open {H : Type} {enc : TypeId × Value → H} {W : World} {base : Nat} {v : Value} {d : DataW H} {p : List MemPlace} (hv : Value.okWide Tryz.prog W .any base 56 v) (h : DataW.Trod enc Tryz.prog W 0 (fun _ => true) true 56 v d p) :
    ∃ l : List ByteArray, SlR W v l.length (l.map Value.string) ∧ l.length ≤ 9223372036854775807 ∧ ∀ s ∈ l, s.size ≤ maxLen := by
  obtain ⟨a0, len0, cap0, rfl⟩ := okWide_slice Tryz.underlying56 hv
  obtain ⟨fuel, hf⟩ := h
  rcases open_strings Tryz.underlying56 Tryz.underlying9 (by kernel_rfl) hf with ⟨hcs, _⟩ | ⟨a, len, cap, ss, hcs, _, hl, hm, hss, _, hcell, hsz⟩
  · simp [Value.cells] at hcs
    obtain ⟨rfl, rfl, rfl⟩ := hcs
    exact ⟨[], ⟨none, 0, rfl, Nat.le_refl _, fun h0 => absurd h0 (by simp)⟩, by simp, fun x hx => by simp at hx⟩
  · simp [Value.cells] at hcs
    obtain ⟨rfl, rfl, rfl⟩ := hcs
    have hle : len0 ≤ ss.length := by rw [hss]; split <;> omega
    unfold maxLen at hm
    have hlen : (ss.take len0).length = len0 := by rw [List.length_take]; omega
    refine ⟨ss.take len0, ?_, by rw [hlen]; omega, fun s hs => hsz s (List.mem_of_mem_take hs)⟩
    rw [hlen]
    refine slr_of (fun i u hu => ?_) (by rw [List.length_map, hlen]) hl
    rw [List.getElem?_map, List.getElem?_take] at hu
    split at hu
    · rename_i hi
      have hi2 : i < ss.length := by omega
      rw [hcell i hi2]
      simp only [List.getElem?_eq_getElem hi2, Option.map_some, Option.some.injEq] at hu
      rw [← hu]
      simp [List.getD, List.getElem?_eq_getElem hi2]
    · cases hu
set_option maxRecDepth 100000 in
theorem bools_open {H : Type} {enc : TypeId × Value → H} {W : World} {base : Nat} {v : Value} {d : DataW H} {p : List MemPlace} (hv : Value.okWide Tryz.prog W .any base 51 v) (h : DataW.Trod enc Tryz.prog W 0 (fun _ => true) true 51 v d p) :
    ∃ l : List Bool, SlR W v l.length (l.map Value.bool) ∧ l.length ≤ 9223372036854775807 := by
  obtain ⟨a0, len0, cap0, rfl⟩ := okWide_slice Tryz.underlying51 hv
  obtain ⟨fuel, hf⟩ := h
  rcases open_bools Tryz.underlying51 Tryz.underlying4 (by kernel_rfl) hf with ⟨hcs, _⟩ | ⟨a, len, cap, B, hcs, _, hl, hm, _, hcell⟩
  · simp [Value.cells] at hcs
    obtain ⟨rfl, rfl, rfl⟩ := hcs
    exact ⟨[], ⟨none, 0, rfl, Nat.le_refl _, fun h0 => absurd h0 (by simp)⟩, by simp⟩
  · simp [Value.cells] at hcs
    obtain ⟨rfl, rfl, rfl⟩ := hcs
    unfold maxLen at hm
    refine ⟨(List.range len0).map B, ?_, by simp; omega⟩
    rw [List.length_map, List.length_range]
    refine slr_of (fun i u hu => ?_) (by simp) hl
    rw [List.getElem?_map, List.getElem?_map] at hu
    by_cases hi : i < len0
    · rw [List.getElem?_range hi] at hu
      simp at hu
      rw [hcell i (by omega), hu]
    · rw [List.getElem?_eq_none (by simp; omega)] at hu
      cases hu
/-- The cells of such a slice, in whatever world behind. -/
theorem slr_at {w : World} {A : Option Addr} {n c : Nat} {xs : List Value} (h : SlR w (.slice A n c) n xs) (h0 : 0 < n) : ∃ g o, A = some ⟨g, o, none⟩ ∧ ∀ W, Below w.heap.size w W → ∀ i u, xs[i]? = some u → W.cell? ⟨g, o + i, none⟩ = some u := by
  obtain ⟨A', c', hv, _, hr⟩ := h
  cases hv
  obtain ⟨g, o, hA, hc⟩ := hr h0
  exact ⟨g, o, hA, fun W hb i u hi => (hb.cell (World.block_lt_of_cell? _ _ (hc i u hi))).trans (hc i u hi)⟩
end Go.Proofs.YtlibdhnlmekmhaaGreatDoor.NtArgs
end

/- A slice of ints, or of bools, that came in. -/
section
namespace Go.Proofs.YtlibdhnlmekmhaaGreatDoor.Frame
open Go.ChangeShapes Go.WideShapes Go.ChangeAt Go.RowKit Go.Lib Go.Shelf
open Go.Proofs.YtlibdhnlmekmhaaGreatDoor.Strs Go.Proofs.YtlibdhnlmekmhaaGreatDoor.Clone

set_option maxRecDepth 100000 in
/-- A slice of integers that came in reads as a list. -/
theorem ints_open {H : Type} {enc : TypeId × Value → H} {W : World} {base : Nat} {v : Value} {d : DataW H} {p : List MemPlace} (hv : Value.okWide Tryz.prog W .any base 50 v) (h : DataW.Trod enc Tryz.prog W 0 (fun _ => true) true 50 v d p) :
    ∃ l : List Int, SlR W v l.length (l.map (Value.int .i64)) ∧ l.length ≤ 9223372036854775807 := by
  obtain ⟨a0, len0, cap0, rfl⟩ := okWide_slice Tryz.underlying50 hv
  obtain ⟨fuel, hf⟩ := h
  rcases open_ints Tryz.underlying50 Tryz.underlying3 (by kernel_rfl) hf with ⟨hcs, _⟩ | ⟨x, l, c, zs, hcs, _, hl, hm, hz, _, hcell, _⟩
  · simp [Value.cells] at hcs
    obtain ⟨rfl, rfl, rfl⟩ := hcs
    exact ⟨[], ⟨none, 0, rfl, Nat.le_refl _, fun h0 => absurd h0 (by simp)⟩, by simp⟩
  · simp [Value.cells] at hcs
    obtain ⟨rfl, rfl, rfl⟩ := hcs
    have hzl : zs.length = cap0 := by simpa using hz
    have hlen : (zs.take len0).length = len0 := by rw [List.length_take]; omega
    unfold maxLen at hm
    refine ⟨zs.take len0, ⟨some x, cap0, by rw [hlen], by rw [hlen]; exact hl, fun h0 => ?_⟩, by rw [hlen]; omega⟩
    obtain ⟨b, off, rfl, hc⟩ := ints_at hcell (by rw [hlen] at h0; omega)
    refine ⟨b, off, rfl, fun j u hj => ?_⟩
    rw [List.getElem?_map, List.getElem?_take] at hj
    split at hj
    · rename_i hjl
      rw [hc j (by omega)]
      simp only [List.getElem?_eq_getElem (show j < zs.length by omega), Option.map_some, Option.some.injEq] at hj
      rw [← hj]
      simp [List.getD, List.getElem?_eq_getElem (show j < zs.length by omega)]
    · cases hj
end Go.Proofs.YtlibdhnlmekmhaaGreatDoor.Frame
end

/- The contract of digits. -/
section
namespace Go.Proofs.YtlibdhnlmekmhaaGreatDoor.Rd
set_option maxRecDepth 100000
open Go.RowKit Go.Maps Go.Lib
open Go.Proofs.YtlibdhnlmekmhaaGreatDoor.Own Go.Proofs.YtlibdhnlmekmhaaGreatDoor.Hp Go.Proofs.YtlibdhnlmekmhaaGreatDoor.Rep Go.Proofs.YtlibdhnlmekmhaaGreatDoor.Get Go.Proofs.YtlibdhnlmekmhaaGreatDoor.Add Go.Proofs.YtlibdhnlmekmhaaGreatDoor.Make Go.Proofs.YtlibdhnlmekmhaaGreatDoor.Utf Go.Proofs.YtlibdhnlmekmhaaGreatDoor.Strs Go.Proofs.YtlibdhnlmekmhaaGreatDoor.Clone Go.Proofs.YtlibdhnlmekmhaaGreatDoor.Car Go.Proofs.YtlibdhnlmekmhaaGreatDoor.Kit
open Go.Proofs.YtlibdhnlmekmhaaGreatDoor.Nt hiding Wd

theorem strOf_push (D : List Int) (c : Int) (h0 : 0 ≤ c) (h1 : c ≤ 127) : strOf (enc (D ++ [c])) = strOf (enc D) ++ ⟨#[c.toNat.toUInt8]⟩ := by
  refine (strOf_eq ?_).symm
  rw [str_add, strOf_list, enc_append, enc_cons, enc_one h0 h1]
  simp [enc]
set_option maxHeartbeats 4000000 in
theorem digits_any (n : Nat) (hn : n < 9223372036854775808) : ∀ w : World, Calls Tryz.prog 29 #[.int .i64 (n : Int)] w fun e w' => e = .returned (.string (strOf (enc (decZ n)))) ∧ Below w.heap.size w w' := by
  induction n using Nat.strongRecOn with
  | _ n ih =>
    intro w
    by_cases h : n < 10
    · rw [decZ_small h]
      clear ih
      have hc : n = 0 ∨ n = 1 ∨ n = 2 ∨ n = 3 ∨ n = 4 ∨ n = 5 ∨ n = 6 ∨ n = 7 ∨ n = 8 ∨ n = 9 := by omega
      rcases hc with rfl | rfl | rfl | rfl | rfl | rfl | rfl | rfl | rfl | rfl
      all_goals
        go_enter Tryz.func29, Tryz.ntmps29
        go_wp2
        go_ret
        exact ⟨rfl, Below.refl _ _⟩
    · have hd : decide ((n : Int) < 10) = false := by simp; omega
      have hq : (n : Int).tdiv 10 = ((n / 10 : Nat) : Int) := by rw [Int.tdiv_eq_ediv_of_nonneg (by omega)]; omega
      have hm : (n : Int).tmod 10 = ((n % 10 : Nat) : Int) := by rw [Int.tmod_eq_emod_of_nonneg (by omega)]; omega
      have HI := Lib.hid (ih (n / 10) (by omega) (by omega))
      rw [decZ_big h]
      clear ih
      have hlen := decZ_len (n / 10) 18 (by omega)
      have hl4 := enc_len4 (decZ (n / 10))
      obtain ⟨P, hP⟩ : ∃ P, strOf (enc (decZ (n / 10))) = P := ⟨_, rfl⟩
      have hps : P.size ≤ 100 := by rw [← hP, strOf_size]; omega
      have hno : ¬ 9223372036854775807 < P.size + 1 := by omega
      have hno2 : P.size + 1 ≤ 9223372036854775807 := by omega
      have hno3 : ¬ (9223372036854775807 : Int) < (P.size : Int) + 1 := by omega
      rw [hP] at HI
      have HP := Lib.hid hP
      clear hlen hl4 hP
      obtain ⟨m, hmm⟩ : ∃ m, n % 10 = m := ⟨_, rfl⟩
      rw [hmm] at hm ⊢
      have hc : m = 0 ∨ m = 1 ∨ m = 2 ∨ m = 3 ∨ m = 4 ∨ m = 5 ∨ m = 6 ∨ m = 7 ∨ m = 8 ∨ m = 9 := by omega
      clear hmm
      rcases hc with rfl | rfl | rfl | rfl | rfl | rfl | rfl | rfl | rfl | rfl
      all_goals
        go_enter Tryz.func29, Tryz.ntmps29
        go_wp2_with fail
        refine wp_region_grown w (Below.refl _ _) (by kernel_rfl) (by kernel_rfl) ?_
        repeat (go_big_quiet_step ((go_at_call 29; exact grown_call (fun w _ => HI.out w))))
        refine wpQuiet_nil ?_
        rintro _ ⟨x, rfl⟩
        go_wp2_with fail
        go_ret
        exact ⟨by rw [strOf_push _ _ (by decide) (by decide), HP.out]; rfl, x.below⟩
end Go.Proofs.YtlibdhnlmekmhaaGreatDoor.Rd
end

/- String literals as ReadStrings writes them, and what Read answers. -/
section
namespace Go.Proofs.YtlibdhnlmekmhaaGreatDoor.Rd
open Go.RowKit Go.Lib
open Go.Proofs.YtlibdhnlmekmhaaGreatDoor.Hp Go.Proofs.YtlibdhnlmekmhaaGreatDoor.Add Go.Proofs.YtlibdhnlmekmhaaGreatDoor.Make Go.Proofs.YtlibdhnlmekmhaaGreatDoor.Utf Go.Proofs.YtlibdhnlmekmhaaGreatDoor.Strs Go.Proofs.YtlibdhnlmekmhaaGreatDoor.Chars
open Go.Proofs.YtlibdhnlmekmhaaGreatDoor.Nt hiding Wd

/-- A hexadecimal digit. -/
def hexd (d : Nat) : Int := if d < 10 then 48 + (d : Int) else 87 + (d : Int)
def hexZ (n : Nat) : List Int := if n < 16 then [hexd n] else hexZ (n / 16) ++ [hexd (n % 16)]
termination_by n
decreasing_by omega
theorem hexZ_small {n : Nat} (h : n < 16) : hexZ n = [hexd n] := by rw [hexZ, if_pos h]
theorem hexZ_big {n : Nat} (h : ¬ n < 16) : hexZ n = hexZ (n / 16) ++ [hexd (n % 16)] := by rw [hexZ, if_neg h]
theorem digZ_hexd : ∀ d : Nat, d < 16 → digZ (hexd d) = (d : Int) := by decide +kernel
theorem digZ_back : digZ 92 = -1 := by decide +kernel
theorem hexd_low (d : Nat) (h : d < 16) : 48 ≤ hexd d ∧ hexd d ≤ 102 := by
  unfold hexd
  split <;> omega
theorem hexZ_ok (n : Nat) : (∀ c ∈ hexZ n, 0 ≤ digZ c ∧ 48 ≤ c ∧ c ≤ 102) ∧ (hexZ n).foldl (fun n c => 16 * n + digZ c) 0 = (n : Int) ∧ hexZ n ≠ [] := by
  induction n using Nat.strongRecOn with
  | _ n ih =>
    by_cases h : n < 16
    · rw [hexZ_small h]
      refine ⟨?_, ?_, by simp⟩
      · intro c hc
        rw [List.mem_singleton] at hc
        subst hc
        rw [digZ_hexd n h]
        exact ⟨by omega, hexd_low n h⟩
      · simp [digZ_hexd n h]
    · obtain ⟨h1, h2, h3⟩ := ih (n / 16) (by omega)
      rw [hexZ_big h]
      have hm : n % 16 < 16 := by omega
      refine ⟨?_, ?_, by simp⟩
      · intro c hc
        rcases List.mem_append.1 hc with hc | hc
        · exact h1 c hc
        · rw [List.mem_singleton] at hc
          subst hc
          rw [digZ_hexd _ hm]
          exact ⟨by omega, hexd_low _ hm⟩
      · rw [List.foldl_append, h2]
        simp only [List.foldl_cons, List.foldl_nil, digZ_hexd _ hm]
        omega
theorem hexZ_len (n : Nat) : ∀ k : Nat, n < 16 ^ (k + 1) → (hexZ n).length ≤ k + 1 := by
  induction n using Nat.strongRecOn with
  | _ n ih =>
    intro k hk
    by_cases h : n < 16
    · rw [hexZ_small h]
      simp
    · rw [hexZ_big h]
      cases k with
      | zero => omega
      | succ k =>
        have := ih (n / 16) (by omega) k (by rw [Nat.pow_succ] at hk; omega)
        simp only [List.length_append, List.length_singleton]
        omega
theorem hexF_run (st : Nat) : ∀ (D : List Int) (k : Nat) (n : Int) (r : List Int), (∀ d ∈ D, 0 ≤ digZ d) → k + D.length ≤ 6 → hexF st k n (D ++ r) = hexF st (k + D.length) (D.foldl (fun n c => 16 * n + digZ c) n) r
  | [], k, n, r, _, _ => rfl
  | d :: D, k, n, r, h, hk => by
    rw [List.length_cons] at hk
    rw [List.cons_append, hexF, if_pos ⟨by omega, h d (by simp)⟩, hexF_run st D (k + 1) _ r (fun c hc => h c (List.mem_cons_of_mem _ hc)) (by omega), List.foldl_cons, List.length_cons]
    congr 1
    omega
theorem hexF_all (st : Nat) {c : Nat} (hc : isC c) (r : List Int) : hexF st 0 0 (hexZ c ++ 92 :: r) = .ok (c : Int) r := by
  obtain ⟨h1, h2, h3⟩ := hexZ_ok c
  have hl := hexZ_len c 5 (by have := hc.2.1; omega)
  have hp := List.length_pos_iff.2 h3
  have hz : isZ (c : Int) = true := (isZ_iff _).2 hc
  rw [hexF_run st _ 0 0 _ (fun d hd => (h1 d hd).1) (by omega), h2, hexF, digZ_back, if_neg (by omega), if_neg (by rw [hz]; simp; omega)]
theorem escF_hex {c : Nat} (hc : isC c) (r : List Int) : escF (120 :: (hexZ c ++ 92 :: r)) = .ok (some (c : Int)) r := by
  simp only [escF]
  rw [if_neg (by decide), if_neg (by decide), if_pos trivial, hexF_all _ hc]
/-- A character as it is written. -/
def litZ (b : Bool) (c : Int) : List Int := if b = true ∨ c = 34 ∨ c = 92 then 92 :: 120 :: (hexZ c.toNat ++ [92]) else [c]
def txtZ (l : List (Bool × Int)) : List Int := (l.map fun p => litZ p.1 p.2).flatten
theorem txtZ_cons (p : Bool × Int) (l : List (Bool × Int)) : txtZ (p :: l) = litZ p.1 p.2 ++ txtZ l := rfl
theorem txtZ_push (l : List (Bool × Int)) (p : Bool × Int) : txtZ (l ++ [p]) = txtZ l ++ litZ p.1 p.2 := by simp [txtZ]
theorem litZ_isC {b : Bool} {c : Int} (hc : isC c) : ∀ x ∈ litZ b c, isC x := by
  unfold litZ
  split
  · intro x hx
    simp only [List.mem_cons, List.mem_append, List.not_mem_nil, or_false] at hx
    rcases hx with rfl | rfl | hx | rfl
    · exact ⟨by omega, by omega, .inl (by omega)⟩
    · exact ⟨by omega, by omega, .inl (by omega)⟩
    · have := ((hexZ_ok c.toNat).1 x hx).2
      exact ⟨by omega, by omega, .inl (by omega)⟩
    · exact ⟨by omega, by omega, .inl (by omega)⟩
  · intro x hx
    rw [List.mem_singleton] at hx
    subst hx
    exact hc
theorem litZ_len {b : Bool} {c : Int} (hc : isC c) : 1 ≤ (litZ b c).length ∧ (litZ b c).length ≤ 9 := by
  unfold litZ
  split
  · have := hexZ_len c.toNat 5 (by have := hc.2.1; omega)
    simp only [List.length_cons, List.length_append, List.length_nil]
    omega
  · simp
theorem txtZ_isC : ∀ (l : List (Bool × Int)), (∀ p ∈ l, isC p.2) → ∀ x ∈ txtZ l, isC x
  | [], _, x, hx => by simp [txtZ] at hx
  | p :: l, h, x, hx => by
    rw [txtZ_cons] at hx
    rcases List.mem_append.1 hx with hx | hx
    · exact litZ_isC (h p (by simp)) x hx
    · exact txtZ_isC l (fun q hq => h q (List.mem_cons_of_mem _ hq)) x hx
theorem txtZ_len : ∀ (l : List (Bool × Int)), (∀ p ∈ l, isC p.2) → l.length ≤ (txtZ l).length ∧ (txtZ l).length ≤ 9 * l.length
  | [], _ => by simp [txtZ]
  | p :: l, h => by
    have h1 := litZ_len (b := p.1) (h p (by simp))
    have h2 := txtZ_len l fun q hq => h q (List.mem_cons_of_mem _ hq)
    rw [txtZ_cons, List.length_append, List.length_cons]
    omega
theorem strF_lit {b : Bool} {c : Int} (hc : isC c) (k : Nat) (acc r : List Int) : strF (k + 1) acc (litZ b c ++ r) = strF k (acc ++ [c]) r := by
  obtain ⟨n, rfl⟩ : ∃ n : Nat, c = n := ⟨c.toNat, by have := hc.1; omega⟩
  unfold litZ
  split
  · rw [Int.toNat_natCast]
    simp only [List.cons_append, List.append_assoc, List.nil_append]
    rw [strF, if_neg (by omega), if_pos rfl]
    rw [escF_hex hc]
    rfl
  · rename_i h
    simp only [not_or] at h
    rw [List.singleton_append, strF, if_neg h.2.1, if_neg h.2.2]
theorem strF_txt : ∀ (l : List (Bool × Int)) (k : Nat) (acc r : List Int), (∀ p ∈ l, isC p.2) → l.length ≤ k → strF k acc (txtZ l ++ r) = strF (k - l.length) (acc ++ l.map Prod.snd) r
  | [], k, acc, r, _, _ => by simp [txtZ]
  | p :: l, k, acc, r, h, hk => by
    rw [List.length_cons] at hk ⊢
    obtain ⟨j, rfl⟩ : ∃ j, k = j + 1 := ⟨k - 1, by omega⟩
    rw [txtZ_cons, List.append_assoc, strF_lit (h p (by simp)), strF_txt l j _ r (fun q hq => h q (List.mem_cons_of_mem _ hq)) (by omega)]
    simp
/-- The heap with the text alone. -/
def obT (l : List Int) : Obs := put Quick.noObs 0 (some (.text (strOf (enc l)) l.length))
theorem read_txt {l : List (Bool × Int)} (h : ∀ p ∈ l, isC p.2) (hl : l.length ≤ 300) (tb : Tb) :
    readR 1 (34 :: (txtZ l ++ [34])) 0 Quick.noObs tb = ⟨(3, 0), ((txtZ l).length : Int) + 2, 0, 0, obT (l.map Prod.snd), tb⟩ := by
  have hL := txtZ_len l h
  have hC : ∀ c ∈ l.map Prod.snd, isC c := by
    intro c hc
    obtain ⟨p, hp, rfl⟩ := List.mem_map.1 hc
    exact h p hp
  have hsk : skipF false (34 :: (txtZ l ++ [34])) = 34 :: (txtZ l ++ [34]) := skipF_stop (by omega) rfl
  unfold readR
  rw [if_neg (by simp; omega)]
  simp only [Int.toNat_zero, List.drop_zero, hsk]
  rw [if_neg (by simp), formM_succ]
  unfold formG
  simp only [hsk]
  unfold headG
  rw [if_neg (by omega), if_neg (by omega), if_neg (by omega), if_neg (by omega), if_neg (by omega), if_neg (by omega), if_neg (by omega), if_pos rfl]
  have hst : strF (34 :: (txtZ l ++ [34])).length [] (txtZ l ++ [34]) = .ok (l.map Prod.snd) [] := by
    rw [strF_txt l _ [] [34] h (by simp; omega)]
    obtain ⟨j, hj⟩ : ∃ j, (34 :: (txtZ l ++ [34])).length - l.length = j + 1 := ⟨(txtZ l).length + 1 - l.length, by simp; omega⟩
    rw [hj, strF, if_pos rfl, List.nil_append]
  have hto : textO Quick.noObs 1 (strOf (enc (l.map Prod.snd))) = ((3, 0), 0, obT (l.map Prod.snd)) := by
    unfold textO
    rw [strOf_list, valid_enc_all _ hC, if_neg (by simp)]
    have hln : lenL (enc (l.map Prod.snd)) = (l.map Prod.snd).length := by
      unfold lenL
      rw [if_pos (valid_enc_all _ hC), runes_enc_all _ hC]
    rw [hln, if_neg (by simp; omega)]
    unfold addO
    rw [if_pos ?_]
    · rfl
    · refine ⟨by decide, ?_⟩
      show usedTo Quick.noObs 1 + (l.map Prod.snd).length ≤ 1048576
      rw [List.length_map]
      show 0 + 0 + l.length ≤ 1048576
      omega
  unfold textG
  simp only [List.tail_cons, hst, hto]
  simp only [if_true, ansF, List.length_cons, List.length_append, List.length_nil]
  congr 1
theorem read_open {l : List (Bool × Int)} (h : ∀ p ∈ l, isC p.2) (ob : Obs) (tb : Tb) :
    readR 1 (34 :: txtZ l) 0 ob tb = ⟨(0, 0), 0, 5, ((txtZ l).length : Int) + 1, ob, tb⟩ := by
  have hL := txtZ_len l h
  have hsk : skipF false (34 :: txtZ l) = 34 :: txtZ l := skipF_stop (by omega) rfl
  unfold readR
  rw [if_neg (by simp; omega)]
  simp only [Int.toNat_zero, List.drop_zero, hsk]
  rw [if_neg (by simp), formM_succ]
  unfold formG
  simp only [hsk]
  unfold headG
  rw [if_neg (by omega), if_neg (by omega), if_neg (by omega), if_neg (by omega), if_neg (by omega), if_neg (by omega), if_neg (by omega), if_pos rfl]
  have hst : strF (34 :: txtZ l).length [] (txtZ l) = .bad 0 := by
    have := strF_txt l (34 :: txtZ l).length [] [] h (by simp; omega)
    rw [List.append_nil] at this
    rw [this]
    cases (34 :: txtZ l).length - l.length with
    | zero => rfl
    | succ j => rfl
  unfold textG
  simp only [List.tail_cons, hst]
  simp [ansF]
end Go.Proofs.YtlibdhnlmekmhaaGreatDoor.Rd
end

/- The contract of hex. -/
section
namespace Go.Proofs.YtlibdhnlmekmhaaGreatDoor.Rd
set_option maxRecDepth 100000
open Go.RowKit Go.Maps Go.Lib
open Go.Proofs.YtlibdhnlmekmhaaGreatDoor.Own Go.Proofs.YtlibdhnlmekmhaaGreatDoor.Hp Go.Proofs.YtlibdhnlmekmhaaGreatDoor.Rep Go.Proofs.YtlibdhnlmekmhaaGreatDoor.Get Go.Proofs.YtlibdhnlmekmhaaGreatDoor.Add Go.Proofs.YtlibdhnlmekmhaaGreatDoor.Make Go.Proofs.YtlibdhnlmekmhaaGreatDoor.Utf Go.Proofs.YtlibdhnlmekmhaaGreatDoor.Strs Go.Proofs.YtlibdhnlmekmhaaGreatDoor.Clone Go.Proofs.YtlibdhnlmekmhaaGreatDoor.Car Go.Proofs.YtlibdhnlmekmhaaGreatDoor.Kit
open Go.Proofs.YtlibdhnlmekmhaaGreatDoor.Nt hiding Wd

set_option maxHeartbeats 4000000 in
theorem hex_any (n : Nat) (hn : n < 9223372036854775808) : ∀ w : World, Calls Tryz.prog 31 #[.int .i64 (n : Int)] w fun e w' => e = .returned (.string (strOf (enc (hexZ n)))) ∧ Below w.heap.size w w' := by
  induction n using Nat.strongRecOn with
  | _ n ih =>
    intro w
    by_cases h : n < 16
    · rw [hexZ_small h]
      clear ih
      have hc : n = 0 ∨ n = 1 ∨ n = 2 ∨ n = 3 ∨ n = 4 ∨ n = 5 ∨ n = 6 ∨ n = 7 ∨ n = 8 ∨ n = 9 ∨ n = 10 ∨ n = 11 ∨ n = 12 ∨ n = 13 ∨ n = 14 ∨ n = 15 := by omega
      rcases hc with rfl | rfl | rfl | rfl | rfl | rfl | rfl | rfl | rfl | rfl | rfl | rfl | rfl | rfl | rfl | rfl
      all_goals
        go_enter Tryz.func31, Tryz.ntmps31
        go_wp2
        go_ret
        exact ⟨rfl, Below.refl _ _⟩
    · have hd : decide ((n : Int) < 16) = false := by simp; omega
      have hq : (n : Int).tdiv 16 = ((n / 16 : Nat) : Int) := by rw [Int.tdiv_eq_ediv_of_nonneg (by omega)]; omega
      have hm : (n : Int).tmod 16 = ((n % 16 : Nat) : Int) := by rw [Int.tmod_eq_emod_of_nonneg (by omega)]; omega
      have HI := Lib.hid (ih (n / 16) (by omega) (by omega))
      rw [hexZ_big h]
      clear ih
      have hlen := hexZ_len (n / 16) 15 (by omega)
      have hl4 := enc_len4 (hexZ (n / 16))
      obtain ⟨P, hP⟩ : ∃ P, strOf (enc (hexZ (n / 16))) = P := ⟨_, rfl⟩
      have hps : P.size ≤ 100 := by rw [← hP, strOf_size]; omega
      have hno : ¬ 9223372036854775807 < P.size + 1 := by omega
      have hno2 : P.size + 1 ≤ 9223372036854775807 := by omega
      have hno3 : ¬ (9223372036854775807 : Int) < (P.size : Int) + 1 := by omega
      rw [hP] at HI
      have HP := Lib.hid hP
      clear hlen hl4 hP
      obtain ⟨m, hmm⟩ : ∃ m, n % 16 = m := ⟨_, rfl⟩
      rw [hmm] at hm ⊢
      have hc : m = 0 ∨ m = 1 ∨ m = 2 ∨ m = 3 ∨ m = 4 ∨ m = 5 ∨ m = 6 ∨ m = 7 ∨ m = 8 ∨ m = 9 ∨ m = 10 ∨ m = 11 ∨ m = 12 ∨ m = 13 ∨ m = 14 ∨ m = 15 := by omega
      clear hmm
      rcases hc with rfl | rfl | rfl | rfl | rfl | rfl | rfl | rfl | rfl | rfl | rfl | rfl | rfl | rfl | rfl | rfl
      all_goals
        go_enter Tryz.func31, Tryz.ntmps31
        go_wp2_with fail
        refine wp_region_grown w (Below.refl _ _) (by kernel_rfl) (by kernel_rfl) ?_
        repeat (go_big_quiet_step ((go_at_call 31; exact grown_call (fun w _ => HI.out w))))
        refine wpQuiet_nil ?_
        rintro _ ⟨x, rfl⟩
        go_wp2_with fail
        go_ret
        exact ⟨by rw [strOf_push _ _ (by decide) (by decide), HP.out]; rfl, x.below⟩
end Go.Proofs.YtlibdhnlmekmhaaGreatDoor.Rd
end

/- The contracts of element, At, SetAt, VecOf, TextOf, CodeOf and Live. -/
section
namespace Go.Proofs.YtlibdhnlmekmhaaGreatDoor.Elem
set_option maxRecDepth 100000
open Go.RowKit
open Go.Proofs.YtlibdhnlmekmhaaGreatDoor.Own Go.Proofs.YtlibdhnlmekmhaaGreatDoor.Hp Go.Proofs.YtlibdhnlmekmhaaGreatDoor.Rep Go.Proofs.YtlibdhnlmekmhaaGreatDoor.Base Go.Proofs.YtlibdhnlmekmhaaGreatDoor.Get Go.Proofs.YtlibdhnlmekmhaaGreatDoor.Clone Go.Proofs.YtlibdhnlmekmhaaGreatDoor.Visit Go.Proofs.YtlibdhnlmekmhaaGreatDoor.CloneC
theorem wcells_at (l : List Wd) (k : Nat) (h : k < l.length) : (wcells l)[k * 2]? = some (.int .i64 (l[k]).1) ∧ (wcells l)[k * 2 + 1]? = some (.int .i64 (l[k]).2) := by
  induction l generalizing k with
  | nil => simp at h
  | cons x l ih =>
    cases k with
    | zero => simp [wcells]
    | succ k =>
      have := ih k (by simpa using h)
      rw [show (k + 1) * 2 = k * 2 + 1 + 1 from by omega]
      simpa [wcells] using this

abbrev wbox (x : Wd) : Obj := .cells #[.int .i64 x.1, .int .i64 x.2] 28
theorem box_below (w : World) (x : Wd) : Below w.heap.size w (w.alloc (wbox x)) := (Below.refl _ _).alloc (Nat.le_refl _) _

set_option maxHeartbeats 1000000 in
theorem elem_no (hp : Nat) (x : Wd) (i : Int) (w : World) (G : Reads w 230 #[ptr hp, wd x] (.tuple #[.pointer none, .int .i64 6])) :
    Calls Tryz.prog 209 #[ptr hp, wd x, .int .i64 i] w fun e w' => e = .returned (.tuple #[.pointer none, .int .i64 6]) ∧ Below w.heap.size w w' := by
  have hb := box_below w x
  have HG := Lib.hid (G.out _ hb)
  clear G
  go_enter Tryz.func209, Tryz.ntmps209
  go_wp2_with fail
  refine HG.out.mono ?_
  rintro e w1 ⟨rfl, hb1⟩
  have HB := Lib.hid (hb.trans (hb1.mono hb.size))
  clear hb1 hb
  go_wp2_with fail
  go_ret2
  exact ⟨rfl, HB.out⟩
set_option maxHeartbeats 1000000 in
theorem elem_out (hp gv n c : Nat) (A : Option Addr) (x : Wd) (i : Int) (w : World) (G : Reads w 230 #[ptr hp, wd x] (.tuple #[ptr gv, .int .i64 0])) (hB : Blk w gv #[.slice A n c] 193) (hi : i < 0 ∨ (n : Int) ≤ i) (hn : n ≤ 65536) :
    Calls Tryz.prog 209 #[ptr hp, wd x, .int .i64 i] w fun e w' => e = .returned (.tuple #[.pointer none, .int .i64 3]) ∧ Below w.heap.size w w' := by
  have hb := box_below w x
  have HG := Lib.hid (G.out _ hb)
  have HBl := Lib.hid hB
  clear G hB
  rcases hi with hi | hi
  · have hd : decide (i < 0) = true := decide_eq_true hi
    go_enter Tryz.func209, Tryz.ntmps209
    go_wp2_with fail
    refine HG.out.mono ?_
    rintro e w1 ⟨rfl, hb1⟩
    have HB := Lib.hid (hb.trans (hb1.mono hb.size))
    clear hb1 hb
    go_wp2_with fail
    go_ret2
    exact ⟨rfl, HB.out⟩
  · have hd : decide (i < 0) = false := decide_eq_false (by omega)
    have hd2 : decide ((n : Int) ≤ i) = true := decide_eq_true hi
    go_enter Tryz.func209, Tryz.ntmps209
    go_wp2_with fail
    refine HG.out.mono ?_
    rintro e w1 ⟨rfl, hb1⟩
    have HB := Lib.hid (hb.trans (hb1.mono hb.size))
    have c0 := (HBl.out.below HB.out).cell 0 _ rfl
    clear hb1 hb
    go_wp2_with fail
    go_ret2
    exact ⟨rfl, HB.out⟩
set_option maxHeartbeats 1000000 in
theorem elem_in (hp gv g n c k : Nat) (x : Wd) (w : World) (G : Reads w 230 #[ptr hp, wd x] (.tuple #[ptr gv, .int .i64 0])) (hB : Blk w gv #[.slice (some ⟨g, 0, none⟩) n c] 193) (hk : k < n) (_hn : n ≤ 65536) :
    Calls Tryz.prog 209 #[ptr hp, wd x, .int .i64 (k : Int)] w fun e w' => e = .returned (.tuple #[.pointer (some ⟨g, k * 2, none⟩), .int .i64 0]) ∧ Below w.heap.size w w' := by
  have hb := box_below w x
  have HG := Lib.hid (G.out _ hb)
  have HBl := Lib.hid hB
  have hd : decide ((k : Int) < 0) = false := decide_eq_false (by omega)
  have hd2 : decide (n ≤ k) = false := decide_eq_false (by omega)
  have hd3 : decide ((n : Int) ≤ (k : Int)) = false := decide_eq_false (by omega)
  clear G hB
  go_enter Tryz.func209, Tryz.ntmps209
  go_wp2_with fail
  refine HG.out.mono ?_
  rintro e w1 ⟨rfl, hb1⟩
  have HB := Lib.hid (hb.trans (hb1.mono hb.size))
  have c0 := (HBl.out.below HB.out).cell 0 _ rfl
  clear hb1 hb
  go_wp2_with fail
  go_ret2
  exact ⟨rfl, HB.out⟩

/-- What element finds. -/
inductive ElemIs (w : World) (lab : Nat → Option Lab) (P : Parts) (ob : Obs) (x : Wd) (i : Int) : Option Addr → Int → Prop
  | none : (∀ l, findO ob x ≠ some (.vec l)) → ElemIs w lab P ob x i none 6
  | out (l : List Wd) : findO ob x = some (.vec l) → (i < 0 ∨ (l.length : Int) ≤ i) → ElemIs w lab P ob x i none 3
  | found (l : List Wd) (g k gv cap : Nat) : findO ob x = some (.vec l) → i = (k : Int) → k < l.length → lab g = some (.row x.2.toNat) → Row w g (wcells l) → P.vals[x.2.toNat]? = some (.iface 189 (ptr gv)) → lab gv = some (.obj x.2.toNat) → Blk w gv #[.slice (some ⟨g, 0, none⟩) l.length cap] 193 → l.length ≤ cap → ElemIs w lab P ob x i (some ⟨g, k * 2, none⟩) 0

theorem elem_any {w : World} {base hp lim : Nat} {ob : Obs} {lab : Nat → Option Lab} {P : Parts} (h : HeapIs w base hp lim ob lab P) (x : Wd) (i : Int) :
    ∃ a c, ElemIs w lab P ob x i a c ∧ Reads w 209 #[ptr hp, wd x, .int .i64 i] (.tuple #[.pointer a, .int .i64 c]) := by
  rcases get_vector_any h x with ⟨⟨gv, ho, hvs, hr⟩, hk⟩ | ⟨hr, hk⟩
  · match hf : findO ob x with
    | some (.vec l) =>
      rw [hf] at ho
      obtain ⟨gv', r, hv, hl, hB, A, cap, hrv, hcap, hrow⟩ := ho
      simp at hv
      subst hv
      subst hrv
      have hsm : l.length ≤ 65536 := by
        obtain ⟨_, h1, _⟩ := findO_some hf
        have := h.small x.2.toNat
        rw [h1] at this
        exact this
      by_cases hi : i < 0 ∨ (l.length : Int) ≤ i
      · exact ⟨none, 3, .out l hf hi, fun w' hb => elem_out hp gv l.length cap A x i w' (hr.below hb) (hB.below hb) hi hsm⟩
      · obtain ⟨k, rfl⟩ := Int.eq_ofNat_of_zero_le (show 0 ≤ i by omega)
        obtain ⟨g, rfl, hlg, hrw⟩ := hrow (by omega)
        exact ⟨_, 0, .found l g k gv cap hf rfl (by omega) hlg hrw hvs hl hB hcap, fun w' hb => elem_in hp gv g l.length cap k x w' (hr.below hb) (hB.below hb) (by omega) hsm⟩
    | none => rw [hf] at hk; simp at hk
    | some (.cons ..) => rw [hf] at hk; simp [Ob.kind] at hk
    | some (.text ..) => rw [hf] at hk; simp [Ob.kind] at hk
    | some (.code ..) => rw [hf] at hk; simp [Ob.kind] at hk
  · exact ⟨none, 6, .none fun l hl => hk (by rw [hl]; rfl), fun w' hb => elem_no hp x i w' (hr.below hb)⟩

/-- What At returns. -/
def atO (ob : Obs) (x : Wd) (i : Int) : Wd × Int := match findO ob x with | some (.vec l) => if i < 0 ∨ (l.length : Int) ≤ i then ((0, 0), 3) else (l.getD i.toNat (0, 0), 0) | _ => ((0, 0), 6)
set_option maxHeartbeats 2000000 in
theorem at_no (hp : Nat) (x : Wd) (i c : Int) (w : World) (hc : c ≠ 0) (G : Reads w 209 #[ptr hp, wd x, .int .i64 i] (.tuple #[.pointer none, .int .i64 c])) :
    Calls Tryz.prog 189 #[ptr hp, wd x, .int .i64 i] w fun e w' => e = .returned (.tuple #[wd (0, 0), .int .i64 c]) ∧ Below w.heap.size w w' := by
  have hb := (box_below w x).alloc (by simp) (wbox (0, 0))
  have HG := Lib.hid (G.out _ hb)
  have hd : (c != 0) = true := by simpa using hc
  clear G hc
  go_enter Tryz.func189, Tryz.ntmps189
  go_wp2_with fail
  refine HG.out.mono ?_
  rintro e w1 ⟨rfl, hb1⟩
  obtain ⟨n1, n2⟩ := two_new hb1
  obtain ⟨c0, c1, d0, d1⟩ := n2.two
  have HB := Lib.hid (hb.trans (hb1.mono hb.size))
  clear n1 n2 hb1 hb
  go_wp2_with fail
  refine bodyPost_ret (v := .tuple #[wd (0, 0), .int .i64 c]) (by simp [results, Tryz.results189, go_sem, c0, c1]) rfl ⟨rfl, ?_⟩
  exact (HB.out.setCell (by simp) _).setCell (by simp) _
set_option maxHeartbeats 2000000 in
theorem at_in (hp g k : Nat) (y : Wd) (x : Wd) (w : World) (G : Reads w 209 #[ptr hp, wd x, .int .i64 (k : Int)] (.tuple #[.pointer (some ⟨g, k * 2, none⟩), .int .i64 0])) (h1 : w.cell? ⟨g, k * 2, none⟩ = some (.int .i64 y.1)) (h2 : w.cell? ⟨g, k * 2 + 1, none⟩ = some (.int .i64 y.2)) :
    Calls Tryz.prog 189 #[ptr hp, wd x, .int .i64 (k : Int)] w fun e w' => e = .returned (.tuple #[wd y, .int .i64 0]) ∧ Below w.heap.size w w' := by
  have hb := (box_below w x).alloc (by simp) (wbox (0, 0))
  have HG := Lib.hid (G.out _ hb)
  have H1 := Lib.hid h1
  have H2 := Lib.hid h2
  clear G h1 h2
  go_enter Tryz.func189, Tryz.ntmps189
  go_wp2_with fail
  refine HG.out.mono ?_
  rintro e w1 ⟨rfl, hb1⟩
  obtain ⟨n1, n2⟩ := two_new hb1
  obtain ⟨c0, c1, d0, d1⟩ := n2.two
  have HB := Lib.hid (hb.trans (hb1.mono hb.size))
  have e1 := (HB.out.cell (World.block_lt_of_cell? _ _ H1.out)).trans H1.out
  have e2 := (HB.out.cell (World.block_lt_of_cell? _ _ H2.out)).trans H2.out
  clear n1 n2 hb1 hb
  go_wp2_with fail
  refine bodyPost_ret (v := .tuple #[wd y, .int .i64 0]) (by simp [results, Tryz.results189, go_sem, c0, c1]) rfl ⟨rfl, ?_⟩
  exact (HB.out.setCell (by simp) _).setCell (by simp) _
theorem at_any {w : World} {base hp lim : Nat} {ob : Obs} {lab : Nat → Option Lab} {P : Parts} (h : HeapIs w base hp lim ob lab P) (x : Wd) (i : Int) :
    Reads w 189 #[ptr hp, wd x, .int .i64 i] (.tuple #[wd (atO ob x i).1, .int .i64 (atO ob x i).2]) := by
  intro w' hb
  have h' := h.below hb
  obtain ⟨a, c, he, hr⟩ := elem_any h' x i
  unfold atO
  cases he with
  | none hn =>
    have e : (match findO ob x with | some (.vec l) => if i < 0 ∨ (l.length : Int) ≤ i then (((0, 0) : Wd), (3 : Int)) else (l.getD i.toNat (0, 0), 0) | _ => ((0, 0), 6)) = ((0, 0), 6) := by
      split
      · rename_i l hl; exact absurd hl (hn l)
      · rfl
    rw [e]
    exact at_no hp x i 6 w' (by omega) hr
  | out l hf hi =>
    rw [hf]
    simp only
    rw [if_pos hi]
    exact at_no hp x i 3 w' (by omega) hr
  | found l g k gv cap hf hi hk hl hrow hvs hlv hB hcap =>
    subst hi
    rw [hf]
    simp only
    rw [if_neg (by omega)]
    obtain ⟨e1, e2⟩ := wcells_at l k hk
    have e : l.getD (k : Int).toNat (0, 0) = l[k] := by simp [hk]
    rw [e]
    exact at_in hp g k _ x w' hr (hrow.cell _ _ e1) (hrow.cell _ _ e2)

/-- What SetAt returns, and the objects behind it. -/
def setAtO (ob : Obs) (x : Wd) (i : Int) (y : Wd) : Int × Obs := match findO ob x with | some (.vec l) => if i < 0 ∨ (l.length : Int) ≤ i then (3, ob) else (0, put ob x.2.toNat (some (.vec (l.set i.toNat y)))) | _ => (6, ob)
end Go.Proofs.YtlibdhnlmekmhaaGreatDoor.Elem
end
