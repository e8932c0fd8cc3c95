/- HeapHolds: inputs that are not considered, and the words of the conses. -/
import Derived.Test.YtcdlfgggmigcnaaDoorHoldsMath
import Derived.LoopTactic
import Derived.Deep.RegionLaw
import Derived.Outline
namespace Go.Proofs.YtcdlfgggmigcnaaDoor.Holds
set_option maxRecDepth 100000
open Go.RowKit
open Go.Proofs.YtcdlfgggmigcnaaDoor.Own Go.Proofs.YtcdlfgggmigcnaaDoor.Hp Go.Proofs.YtcdlfgggmigcnaaDoor.Rep Go.Proofs.YtcdlfgggmigcnaaDoor.Get Go.Proofs.YtcdlfgggmigcnaaDoor.Quick Go.Proofs.YtcdlfgggmigcnaaDoor.Add Go.Proofs.YtcdlfgggmigcnaaDoor.Make Go.Proofs.YtcdlfgggmigcnaaDoor.Kit Go.Proofs.YtcdlfgggmigcnaaDoor.Strs Go.Proofs.YtcdlfgggmigcnaaDoor.Clone Go.Proofs.YtcdlfgggmigcnaaDoor.Lives

theorem wcells_append (a b : List Wd) : wcells (a ++ b) = wcells a ++ wcells b := by
  induction a with
  | nil => rfl
  | cons x a ih => simp [wcells, ih]
/-- Two cells of a word that was built. -/
theorem two_cell (w : World) (x y : Value) (t : TypeId) : ∀ j u, [x, y][j]? = some u → (w.alloc (.cells #[x, y] t)).cell? ((⟨w.heap.size, 0, none⟩ : Addr).add j) = some u := by
  intro j u hj
  have h := Blk.new w #[x, y] t
  rcases j with _ | _ | j
  · simp at hj; subst hj; exact h.cell 0 _ rfl
  · simp at hj; subst hj; exact h.cell 1 _ rfl
  · simp at hj
theorem two_one (a b : Int) : ∀ u ∈ [Value.int .i64 a, .int .i64 b], u.oneCell' = true := by
  intro u hu
  simp at hu
  rcases hu with rfl | rfl <;> rfl
/-- Inputs that are not considered. -/
theorem light (A0 : Option Addr) (n c0 : Nat) (s : ByteArray) (i : Int) (x : Wd) (w : World) (hn : n ≤ 9223372036854775807) (hs : s.size ≤ maxLen) (h : 60 < n ∨ 300 < s.size) (hT : Tabs w) :
    Calls Tryd.prog 4 #[.slice A0 n c0, .string s, .int .i64 i, wd x] w fun e w' => e = .returned (.bool true) ∧ Below w.heap.size w w' := by
  have hbB : Below w.heap.size w (w.alloc (.cells #[.int .i64 x.1, .int .i64 x.2] 28)) := (Below.refl _ _).alloc (Nat.le_refl _) _
  have HL := Lib.hid (lives_any _ (hT.below hbB))
  have HBB := Lib.hid hbB
  unfold maxLen at hs
  clear hT hbB
  by_cases h3 : 60 < n
  · have hz : (60 : Int) < n := by omega
    clear h
    go_enter Tryd.func4, Tryd.ntmps4
    go_wp2_with fail
    refine HL.out.mono ?_
    rintro e w1 ⟨rfl, hb1⟩
    have HF := Lib.hid (HBB.out.trans (hb1.mono HBB.out.size))
    go_wp2_with fail
    go_ret
    exact ⟨rfl, HF.out⟩
  · have hn60 : n ≤ 60 := by omega
    have hz2 : (300 : Int) < s.size := by omega
    clear h
    go_enter Tryd.func4, Tryd.ntmps4
    go_wp2_with fail
    refine HL.out.mono ?_
    rintro e w1 ⟨rfl, hb1⟩
    have HF := Lib.hid (HBB.out.trans (hb1.mono HBB.out.size))
    go_wp2_with fail
    go_ret
    exact ⟨rfl, HF.out⟩

/-- The words of the first k conses. -/
def cw (T : Option (ByteArray × Nat)) (k : Nat) : List Wd := (List.range k).map fun j => (2, ((low T + j : Nat) : Int))
theorem cw_length (T : Option (ByteArray × Nat)) (k : Nat) : (cw T k).length = k := by simp [cw]
theorem cw_succ (T : Option (ByteArray × Nat)) (k : Nat) : cw T (k + 1) = cw T k ++ [(2, ((low T + k : Nat) : Int))] := by simp [cw, List.range_succ]
theorem cw_at (T : Option (ByteArray × Nat)) (k j : Nat) (h : j < k) : (cw T k)[j]? = some (2, ((low T + j : Nat) : Int)) := by simp [cw, h]
/-- What holds between the rounds of the first loop. -/
structure Ho (w wr : World) (m l : List Wd) (d : Nat → Wd) (T : Option (ByteArray × Nat)) (k : Nat) (v : Value) (lab : Nat → Option Lab) (P : Parts) : Prop where
  below : Below w.heap.size w wr
  heap : HeapIs wr w.heap.size w.heap.size 200 (obH m l d T k) lab P
  row : wr.ownsRow w.heap.size 28 2 v k (wcells (cw T k))
  apart : ∀ b, v.ownBlock = some b → lab b = none
theorem Ho.later {w wr W : World} {m l : List Wd} {d : Nat → Wd} {T : Option (ByteArray × Nat)} {k : Nat} {v : Value} {lab : Nat → Option Lab} {P : Parts} (h : Ho w wr m l d T k v lab P) (hb : Below wr.heap.size wr W) : Ho w W m l d T k v lab P :=
  ⟨h.below.trans (hb.mono h.below.size), h.heap.below hb, owns_below h.row hb, h.apart⟩
/-- What Cons does in the first loop: a heap with one cons more; the row stands. -/
theorem Ho.cons {w wr : World} {m l : List Wd} {d : Nat → Wd} {T : Option (ByteArray × Nat)} {k : Nat} {v : Value} {lab : Nat → Option Lab} {P : Parts} {y : Wd} (h : Ho w wr m l d T k v lab P) (hy : l[k]? = some y) (hk : k < 60) (hm : m.length ≤ 60) (hT : ∀ p, T = some p → p.2 ≤ 300) :
    ∀ W, Below wr.heap.size wr W → Calls Tryd.prog 17 #[ptr w.heap.size, wd y, wd (d k)] W fun e w' => e = .returned (.tuple #[wd (2, ((low T + k : Nat) : Int)), .int .i64 0]) ∧ ∃ lab' P', Below w.heap.size w w' ∧ HeapIs w' w.heap.size w.heap.size 200 (obH m l d T (k + 1)) lab' P' ∧ w'.ownsRow w.heap.size 28 2 v k (wcells (cw T k)) ∧ (∀ b, v.ownBlock = some b → lab' b = none) ∧ After W w' lab lab' := by
  intro W hb
  have hW := h.later hb
  have hc := cons_any hW.heap hW.below.size y (d k)
  rw [obH_add m l d T k y hy hk hm hT] at hc
  refine hc.mono ?_
  rintro e w' ⟨he, lab', P', hI, hA⟩
  refine ⟨he, lab', P', hW.below.trans (after_below hW.heap hW.below.size hA), hI, owns_keeps hW.row hA.keeps (fun b e2 => by unfold Of; rw [hW.apart b e2]; simp), fun b e2 => ?_, hA⟩
  exact after_lab hA (hW.row.lt b e2).2 (hW.apart b e2)
end Go.Proofs.YtcdlfgggmigcnaaDoor.Holds
