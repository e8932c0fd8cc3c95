/- The contracts of runes.find and its closure. -/
import Derived.Test.YtlibdhnlmekmhaaGreatDoorRows
import Derived.WalkKit
import Derived.WalkSpells
import Derived.WalkLawsBesides
import Derived.RegionTactic
import Derived.BigQuiet
import Derived.Deep.QuietTactic
import Derived.Shelf.SlSorted.Search
import Derived.Lib.Hide
import Derived.Test.YtlibdhnlmekmhaaGreatDoorMh01
import Derived.Test.YtlibdhnlmekmhaaGreatDoorMh04
namespace Go.Proofs.YtlibdhnlmekmhaaGreatDoor.CFind
set_option maxRecDepth 100000
open Go.RowKit Go.Shelf Go.Lib Go.Sort
open Go.Proofs.YtlibdhnlmekmhaaGreatDoor.Spans

/-- Spans that lie in a block, from its first cell on. -/
def SpanRow (w : World) (b : Nat) (l : List Span) : Prop := ∀ i, i < l.length →
  w.cell? ⟨b, i * 3, none⟩ = some (.int .i64 (l.getD i (0, 0, 0)).1) ∧ w.cell? ⟨b, i * 3 + 1, none⟩ = some (.int .i64 (l.getD i (0, 0, 0)).2.1) ∧ w.cell? ⟨b, i * 3 + 2, none⟩ = some (.int .i64 (l.getD i (0, 0, 0)).2.2)

set_option maxHeartbeats 400000 in
theorem closure (bc bs b n cap : Nat) (last : Int) (c : Int) (i : Nat) (W : World) (hi : i < n)
    (hs : W.cell? ⟨bs, 0, none⟩ = some (.slice (some ⟨b, 0, none⟩) n cap)) (hx : W.cell? ⟨bc, 0, none⟩ = some (.int .i64 c)) (hc : W.cell? ⟨b, i * 3 + 1, none⟩ = some (.int .i64 last)) :
    Calls Tryz.prog 233 (#[.int .i64 i] ++ #[.pointer (some ⟨bc, 0, none⟩), .pointer (some ⟨bs, 0, none⟩)]) W fun e w' => e = .returned (.bool (decide (c ≤ last))) ∧ ∃ q, w' = W.drewN q := by
  have hiz : (i : Int) < (n : Int) := by omega
  go_enter Tryz.func233, Tryz.ntmps233
  go_wp2
  go_region
  all_goals go_wp2
  all_goals go_ret
  all_goals exact ⟨by first | rfl | simp, 1, rfl⟩

theorem at_getD {l : List Span} {k : Nat} (h : k < l.length) : l.getD k (0, 0, 0) = l[k] := by simp [List.getD, List.getElem?_eq_getElem h]

set_option maxHeartbeats 1000000 in
/-- runes.find over ascending spans. -/
theorem find_any (b cap : Nat) (l : List Span) (c o : Int) (w : World) (hr : SpanRow w b l) (hb : b < w.heap.size) (ha : Rises l) (hn : l.length < 4611686018427387904) :
    Calls Tryz.prog 216 #[.slice (some ⟨b, 0, none⟩) l.length cap, .int .i64 c, .int .i64 o] w fun e w' => e = .returned (.int .i64 (findR l c o)) ∧ Below w.heap.size w w' := by
  obtain ⟨W0, hW0⟩ : ∃ W0, W0 = (w.alloc (.cells #[.slice (some ⟨b, 0, none⟩) l.length cap] 218)).alloc (.cells #[.int .i64 c] 3) := ⟨_, rfl⟩
  have hsize : W0.heap.size = w.heap.size + 1 + 1 := by rw [hW0]; simp
  have ca : W0.cell? ⟨w.heap.size, 0, none⟩ = some (.slice (some ⟨b, 0, none⟩) l.length cap) := by rw [hW0]; exact cell_alloc_sl _ (cell_new_sl w _ _)
  have cx : W0.cell? ⟨w.heap.size + 1, 0, none⟩ = some (.int .i64 c) := by rw [hW0]; have := cell_new_sl (w.alloc (.cells #[.slice (some ⟨b, 0, none⟩) l.length cap] 218)) (.int .i64 c) 3; rwa [World.size_alloc] at this
  have cc : SpanRow W0 b l := fun i hi => by
    obtain ⟨h1, h2, h3⟩ := hr i hi
    rw [hW0]
    exact ⟨cell_alloc_sl _ (cell_alloc_sl _ h1), cell_alloc_sl _ (cell_alloc_sl _ h2), cell_alloc_sl _ (cell_alloc_sl _ h3)⟩
  have eg : ∀ args w, (callFunc 233 args).run Tryz.prog w = .ok (.enter 233 args) w := enters_of Tryz.func233 (by kernel_rfl) rfl
  have hS := Any.sort_Search Tryz.laysSearch 233 #[.pointer (some ⟨w.heap.size + 1, 0, none⟩), .pointer (some ⟨w.heap.size, 0, none⟩)] l.length (fun i => decide (c ≤ (l.getD i (0, 0, 0)).2.1)) W0 eg hn
    (fun m os i hi => (closure (w.heap.size + 1) w.heap.size b l.length cap (l.getD i (0, 0, 0)).2.1 c i _ hi (cell_grown (by simp [hsize]; omega) ca m os) (cell_grown (by simp [hsize]) cx m os) (cell_grown (by simp [hsize]; omega) (cc i hi).2.1 m os)).mono
      fun _ _ ⟨he, q, hq⟩ => ⟨he, q, #[], by rw [hq, grow_empty]⟩) (fun x y hxy hy h => decide_eq_true (Int.le_trans (of_decide_eq_true h) (getD_mono ha x y hxy hy)))
  rw [countP_places l (fun s => !decide (c ≤ s.2.1)), show l.countP (fun s => !decide (c ≤ s.2.1)) = ends l c from rfl] at hS
  change Calls Tryz.prog 228 _ _ _ at hS
  have hk : ends l c ≤ l.length := ends_le l c
  have hB0 : Below w.heap.size w W0 := by rw [hW0]; exact ((Below.refl _ w).alloc (Nat.le_refl _) _).alloc (by simp) _
  have hyes : ∀ h : ends l c < l.length, (l.getD (ends l c) (0, 0, 0)).1 ≤ c → findR l c o = (l.getD (ends l c) (0, 0, 0)).2.2 := fun h hf => by rw [at_getD h] at hf ⊢; exact findR_yes l c o ha h hf
  have hno : (∀ h : ends l c < l.length, ¬ (l.getD (ends l c) (0, 0, 0)).1 ≤ c) → findR l c o = o := fun h => findR_no l c o ha (fun hl => by have := h hl; rwa [at_getD hl] at this)
  have hS2 := hS.mono (R' := fun e w' => e = .returned (.int .i64 (ends l c)) ∧ w'.cell? ⟨w.heap.size, 0, none⟩ = some (.slice (some ⟨b, 0, none⟩) l.length cap) ∧ w'.cell? ⟨w.heap.size + 1, 0, none⟩ = some (.int .i64 c) ∧ SpanRow w' b l ∧ Below w.heap.size w w')
    (fun e w' ⟨he, q, os, hq⟩ => by
      rw [hq]
      exact ⟨he, cell_grown (by simp [hsize]; omega) ca q os, cell_grown (by simp [hsize]) cx q os, fun i hi => ⟨cell_grown (by simp [hsize]; omega) (cc i hi).1 q os, cell_grown (by simp [hsize]; omega) (cc i hi).2.1 q os, cell_grown (by simp [hsize]; omega) (cc i hi).2.2 q os⟩, hB0.trans (below_grown_sl w.heap.size W0 q os (by omega))⟩)
  clear hS cc hB0 eg hr ha ca cx hsize
  subst hW0
  have HS := Lib.hid hS2
  have Hyes := Lib.hid hyes
  have Hno := Lib.hid hno
  clear hS2 hyes hno
  generalize findR l c o = ans at *
  generalize ends l c = k at *
  by_cases h1 : k < l.length
  · have h1z : (k : Int) < (l.length : Int) := by omega
    obtain ⟨f, hf⟩ : ∃ f, (l.getD k (0, 0, 0)).1 = f := ⟨_, rfl⟩
    obtain ⟨v, hv⟩ : ∃ v, (l.getD k (0, 0, 0)).2.2 = v := ⟨_, rfl⟩
    have HS3 := Lib.hid (HS.out.mono (R' := fun e w' => e = .returned (.int .i64 k) ∧ w'.cell? ⟨w.heap.size, 0, none⟩ = some (.slice (some ⟨b, 0, none⟩) l.length cap) ∧ w'.cell? ⟨w.heap.size + 1, 0, none⟩ = some (.int .i64 c) ∧ w'.cell? ⟨b, k * 3, none⟩ = some (.int .i64 f) ∧ w'.cell? ⟨b, k * 3 + 2, none⟩ = some (.int .i64 v) ∧ Below w.heap.size w w')
      (fun e w' ⟨g1, g2, g3, g4, g5⟩ => ⟨g1, g2, g3, by have := (g4 k h1).1; rwa [hf] at this, by have := (g4 k h1).2.2; rwa [hv] at this, g5⟩))
    have hy : f ≤ c → v = ans := fun h => by rw [← hv]; exact (Hyes.out h1 (by rw [hf]; exact h)).symm
    have hn' : ¬ f ≤ c → o = ans := fun h => (Hno.out (fun _ => by rw [hf]; exact h)).symm
    clear Hyes Hno HS hf hv
    generalize l.length = n at *
    by_cases h2 : f ≤ c
    · obtain rfl := hy h2
      have hd : decide (f ≤ c) = true := decide_eq_true h2
      clear hy hn'
      go_enter Tryz.func216, Tryz.ntmps216
      go_wp2_with (go_at_call 228; refine HS3.out.mono ?_; rintro e w1 ⟨rfl, d1, d2, d3, d4, hB⟩)
      go_quiet (fail)
      go_wp2
      go_ret
      exact ⟨rfl, below_drewNv hB _⟩
    · obtain rfl := hn' h2
      have hd : decide (f ≤ c) = false := decide_eq_false h2
      clear hy hn'
      go_enter Tryz.func216, Tryz.ntmps216
      go_wp2_with (go_at_call 228; refine HS3.out.mono ?_; rintro e w1 ⟨rfl, d1, d2, d3, d4, hB⟩)
      go_quiet (fail)
      go_wp2
      go_ret
      exact ⟨rfl, below_drewNv hB _⟩
  · have h1z : ¬ (k : Int) < (l.length : Int) := by omega
    have hd : decide ((k : Int) < (l.length : Int)) = false := decide_eq_false h1z
    have hd' : decide (k < l.length) = false := decide_eq_false h1
    have hn' : o = ans := (Hno.out (fun h => absurd h h1)).symm
    have HS3 := Lib.hid (HS.out.mono (R' := fun e w' => e = .returned (.int .i64 k) ∧ w'.cell? ⟨w.heap.size, 0, none⟩ = some (.slice (some ⟨b, 0, none⟩) l.length cap) ∧ w'.cell? ⟨w.heap.size + 1, 0, none⟩ = some (.int .i64 c) ∧ Below w.heap.size w w')
      (fun e w' ⟨g1, g2, g3, g4, g5⟩ => ⟨g1, g2, g3, g5⟩))
    obtain rfl := hn'
    clear Hyes Hno HS
    generalize l.length = n at *
    go_enter Tryz.func216, Tryz.ntmps216
    go_wp2_with (go_at_call 228; refine HS3.out.mono ?_; rintro e w1 ⟨rfl, d1, d2, hB⟩)
    go_quiet (fail)
    go_wp2
    go_ret
    exact ⟨rfl, below_drewNv hB _⟩
end Go.Proofs.YtlibdhnlmekmhaaGreatDoor.CFind
