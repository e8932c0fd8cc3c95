/- The sorted keys of a map from ints. -/
import Derived.Test.YtkbdonecbepfnaaVsWords
import Derived.Test.YtkbdonecbepfnaaVsShelf
namespace Go.Proofs.Ytkbdonecbepfnaa.Vs
set_option maxRecDepth 100000
open Go.RowKit Go.Maps Go.Sort Go.Shelf
open Go.Proofs.Ytkbdonecbepfnaa.Own

/-- The keys of a map, in their order. -/
structure KeysOf (F : Int → Option Value) (l : List Int) : Prop where
  sorted : l.Pairwise (· < ·)
  mem : ∀ x, x ∈ l ↔ (F x).isSome = true
  range : ∀ x ∈ l, 0 ≤ x ∧ x ≤ 65536
theorem KeysOf.len {F : Int → Option Value} {l : List Int} (h : KeysOf F l) : l.length ≤ 65537 :=
  nodup_len 65537 l (h.sorted.imp fun hlt e => by omega) fun x hx => by have := h.range x hx; omega
theorem MapOf.keys {w : World} {b : Nat} {F : Int → Option Value} (h : MapOf w b F) :
    ∃ D : DataW Value, w.ownsMap Try.prog 3 heldR b (size D) D ∧ size D ≤ 65537 ∧ ∀ ss : List Int, ss.Perm (intKeys D) → KeysOf F (ss.mergeSort fun x y => decide (x ≤ y)) := by
  obtain ⟨D, ks, ho, hs, hn, hk, h1, _, hr⟩ := h
  have hks : ks.length ≤ 65537 := nodup_len 65537 ks hn fun x hx => by have := hr x ((hk x).1 hx); omega
  refine ⟨D, ho, by omega, fun ss hp => ?_⟩
  obtain ⟨es, hD, hpw, _⟩ := ho.entries law
  obtain ⟨es', hD', hko⟩ := ho.keysOf
  obtain rfl : es = es' := by rw [hD] at hD'; simpa using hD'
  subst hD
  have hkp : ks.Perm (intKeys (.map es : DataW Value)) :=
    perm_intKeys hpw (fun p hp => by obtain ⟨v, hv⟩ := hko p hp; obtain ⟨x, _, hx, _⟩ := Maps.keyOf_i64 Try.underlying3 hv; exact ⟨x, hx⟩) hn (fun x => by rw [hk x, ← h1 x])
  have hsp : (ss.mergeSort fun x y => decide (x ≤ y)).Perm ks := ((List.mergeSort_perm ss _).trans hp).trans hkp.symm
  have hnd : (ss.mergeSort fun x y => decide (x ≤ y)).Nodup := hsp.nodup_iff.2 hn
  have tr : ∀ a b c : Int, (decide (a ≤ b)) = true → (decide (b ≤ c)) = true → (decide (a ≤ c)) = true := fun a b c h1 h2 => by simp only [decide_eq_true_eq] at *; exact Int.le_trans h1 h2
  have to : ∀ a b : Int, (decide (a ≤ b) || decide (b ≤ a)) = true := fun a b => by simp only [Bool.or_eq_true, decide_eq_true_eq]; exact Int.le_total a b
  have hso := List.pairwise_mergeSort tr to ss
  refine ⟨(hso.and hnd).imp fun ⟨h1, h2⟩ => ?_, fun x => (hsp.mem_iff).trans (hk x), fun x hx => hr x ((hk x).1 (hsp.mem_iff.1 hx))⟩
  have := decide_eq_true_iff.1 h1
  omega

/-- slices.Sort's two contracts, at the fence that asks nothing. -/
theorem sortsI (m : Nat) : AnyZI.SortsIn Try.prog Try.sortedI_ren Fence.wide m :=
  ⟨fun blk off cap ss W hH hblk hsz => callsIn_wide.2 (AnyM.slices_Sort_int Try.sortI blk off cap ss W hH hblk hsz),
   fun p cap W => callsIn_wide.2 (AnyM.slices_Sort_int_none Try.sortI p cap W)⟩
theorem keysI_any (mb : Option Nat) (w : World) : Calls Try.prog 48 #[.map mb] w fun e w' => e = .returned (.func (.func 60) #[] #[.pointer (some ⟨w.heap.size, 0, none⟩)]) ∧ w' = w.alloc (.cells #[.map mb] 66) :=
  callsIn_wide.1 (AnyZI.keys_in Try.keysI Fence.wide 5 trivial rfl mb w)
/-- Sorted keys, as a row of the call's own. -/
structure KeyRow (w w' : World) (F : Int → Option Value) (v : Value) (l : List Int) : Prop where
  keys : KeysOf F l
  row : w'.ownsRow w.heap.size 3 1 v l.length (l.map encZ)
  below : Below w.heap.size w w'
theorem owns_alloc {w : World} {b : Nat} {D : DataW Value} (h : w.ownsMap Try.prog 3 heldR b (size D) D) (o : Obj) : (w.alloc o).ownsMap Try.prog 3 heldR b (size D) D := by
  have hbl := h.lt
  obtain ⟨es, clock, hb, Ft, hs, hD⟩ := h
  exact ⟨es, clock, (Below.heap_alloc _ _ b hbl).trans hb, Ft, hs, hD⟩
theorem sorted_inner {w : World} {b : Nat} {F : Int → Option Value} (h : MapOf w b F) : Calls Try.prog 46 #[.func (.func 60) #[] #[.pointer (some ⟨w.heap.size, 0, none⟩)]] (w.alloc (.cells #[.map (some b)] 66)) fun e w' => ∃ v l, e = .returned v ∧ KeyRow w w' F v l := by
  obtain ⟨D, ho, hsz, hks⟩ := h.keys
  have hseq : SeqGives Fence.wide 2 Try.prog 60 #[.pointer (some ⟨w.heap.size, 0, none⟩)] encZ (fun ss => ss.Perm (intKeys D)) (Maps.size D) (w.alloc (.cells #[.map (some b)] 66)) :=
    AnyZI.keys_gives (ρ := Try.keysI_ren) { Try.keysI with } Fence.wide _ trivial rfl (by omega) w.heap.size b _ D _ (by simp) (by simp) (owns_alloc ho _)
  have cS := AnyZI.sorted_in Try.sortedI Fence.wide 5 trivial trivial trivial trivial rfl (by omega) (sortsI _) (enters_of Try.func58 (by kernel_rfl) rfl) 60 #[.pointer (some ⟨w.heap.size, 0, none⟩)] trivial (enters_of Try.func60 (by kernel_rfl) rfl) _ _ (by unfold maxLen; omega) (by omega) _ hseq
  change CallsIn _ _ Try.prog 46 _ _ _ at cS
  refine (callsIn_wide.1 cS).mono ?_
  rintro e w' ⟨v, ss, rfl, hp, hrow, _, hb⟩
  have hl : (ss.mergeSort fun x y => decide (x ≤ y)).length = ss.length := List.length_mergeSort ss
  exact ⟨v, _, rfl, hks ss hp, by rw [hl]; exact ownsRow_base_a hrow (by simp), ((Below.refl _ w).alloc (Nat.le_refl _) _).trans (hb.mono (by simp))⟩
theorem keysO_any (mb : Option Nat) (w : World) : Calls Try.prog 47 #[.map mb] w fun e w' => e = .returned (.func (.func 59) #[] #[.pointer (some ⟨w.heap.size, 0, none⟩)]) ∧ w' = w.alloc (.cells #[.map mb] 52) :=
  callsIn_wide.1 (AnyZI.keys_in Try.keysO Fence.wide 5 trivial rfl mb w)
theorem sorted_outer {w : World} {b : Nat} {F : Int → Option Value} (h : MapOf w b F) : Calls Try.prog 46 #[.func (.func 59) #[] #[.pointer (some ⟨w.heap.size, 0, none⟩)]] (w.alloc (.cells #[.map (some b)] 52)) fun e w' => ∃ v l, e = .returned v ∧ KeyRow w w' F v l := by
  obtain ⟨D, ho, hsz, hks⟩ := h.keys
  have hseq : SeqGives Fence.wide 2 Try.prog 59 #[.pointer (some ⟨w.heap.size, 0, none⟩)] encZ (fun ss => ss.Perm (intKeys D)) (Maps.size D) (w.alloc (.cells #[.map (some b)] 52)) :=
    AnyZI.keys_gives (ρ := Try.keysO_ren) { Try.keysO with } Fence.wide _ trivial rfl (by omega) w.heap.size b _ D _ (by simp) (by simp) (owns_alloc ho _)
  have cS := AnyZI.sorted_in Try.sortedI Fence.wide 5 trivial trivial trivial trivial rfl (by omega) (sortsI _) (enters_of Try.func58 (by kernel_rfl) rfl) 59 #[.pointer (some ⟨w.heap.size, 0, none⟩)] trivial (enters_of Try.func59 (by kernel_rfl) rfl) _ _ (by unfold maxLen; omega) (by omega) _ hseq
  change CallsIn _ _ Try.prog 46 _ _ _ at cS
  refine (callsIn_wide.1 cS).mono ?_
  rintro e w' ⟨v, ss, rfl, hp, hrow, _, hb⟩
  have hl : (ss.mergeSort fun x y => decide (x ≤ y)).length = ss.length := List.length_mergeSort ss
  exact ⟨v, _, rfl, hks ss hp, by rw [hl]; exact ownsRow_base_a hrow (by simp), ((Below.refl _ w).alloc (Nat.le_refl _) _).trans (hb.mono (by simp))⟩
end Go.Proofs.Ytkbdonecbepfnaa.Vs
