/- HeapCollect: what its walk goes by. -/
import Derived.Test.YtpofmbigclonlaaDoorCollMath
import Derived.Test.YtpofmbigclonlaaDoorLawFull
import Derived.Deep.RegionHeld3
import Derived.StillTailTactics
namespace Go.Proofs.YtpofmbigclonlaaDoor.Coll
open Go.RowKit
open Go.Proofs.YtpofmbigclonlaaDoor.Own Go.Proofs.YtpofmbigclonlaaDoor.Hp Go.Proofs.YtpofmbigclonlaaDoor.Rep Go.Proofs.YtpofmbigclonlaaDoor.Get Go.Proofs.YtpofmbigclonlaaDoor.Quick Go.Proofs.YtpofmbigclonlaaDoor.Add Go.Proofs.YtpofmbigclonlaaDoor.Make Go.Proofs.YtpofmbigclonlaaDoor.Kit Go.Proofs.YtpofmbigclonlaaDoor.Strs Go.Proofs.YtpofmbigclonlaaDoor.Clone Go.Proofs.YtpofmbigclonlaaDoor.Lives Go.Proofs.YtpofmbigclonlaaDoor.Nums Go.Proofs.YtpofmbigclonlaaDoor.Collect Go.Proofs.YtpofmbigclonlaaDoor.Car Go.Proofs.YtpofmbigclonlaaDoor.Dfs Go.Proofs.YtpofmbigclonlaaDoor.Visit

/-- The number that is picked from the element at i. -/
def pk (l : List Int) (i : Nat) : Nat := (pickZ (l.getD i 0) 41).toNat
theorem pk_eq (l : List Int) (i : Nat) : ((pk l i : Nat) : Int) = pickZ (l.getD i 0) 41 := Int.toNat_of_nonneg (pick_range _ 41 (by omega)).1
theorem pk_lt (l : List Int) (i : Nat) : pk l i < 41 := by
  have := (pick_range (l.getD i 0) 41 (by omega)).2
  have := pk_eq l i
  omega
theorem pick_at (l : List Int) (i : Nat) (w : World) : Calls Tryd.prog 24 #[.int .i64 (l.getD i 0), .int .i64 41] w fun e w' => e = .returned (.int .i64 (pk l i : Int)) ∧ w = w' := by
  rw [pk_eq]
  exact pick_any _ 41 w (by omega) (by omega)
theorem pick_still (l : List Int) (i : Nat) (w : World) : Calls Tryd.prog 24 #[.int .i64 (l.getD i 0), .int .i64 41] w fun e w' => e = .returned (.int .i64 (pk l i : Int)) ∧ w' = w :=
  (pick_at l i w).mono fun _ _ h => ⟨h.1, h.2.symm⟩
/-- The elements that are picked. -/
def picked (l : List Int) (n : Nat) : List Nat := (List.range n).map (pk l)
theorem picked_length (l : List Int) (n : Nat) : (picked l n).length = n := by simp [picked]
theorem picked_succ (l : List Int) (n : Nat) : picked l (n + 1) = picked l n ++ [pk l n] := by simp [picked, List.range_succ]
theorem picked_small (l : List Int) (n : Nat) : ∀ x ∈ picked l n, x < 41 := by
  intro x hx
  obtain ⟨i, _, rfl⟩ := List.mem_map.1 hx
  exact pk_lt l i

/-- The cells of an argument. -/
theorem cells_at {w : World} {A : Option Addr} {n c : Nat} {l : List Int} (h : SlR w (.slice A n c) n (l.map (Value.int .i64))) (hn : l.length = n) (h0 : 0 < n) :
    ∃ g off, A = some ⟨g, off, none⟩ ∧ ∀ W, Below w.heap.size w W → ∀ i, i < n → W.cell? ⟨g, off + i, none⟩ = some (.int .i64 (l.getD i 0)) := by
  obtain ⟨A', c', hv, hc, hr⟩ := h
  simp only [Value.slice.injEq] at hv
  obtain ⟨rfl, _, rfl⟩ := hv
  obtain ⟨g, off, rfl, hcell⟩ := hr h0
  refine ⟨g, off, rfl, fun W hb i hi => ?_⟩
  have := hcell i (.int .i64 (l.getD i 0)) (by simp [List.getD, List.getElem?_eq_getElem (show i < l.length by omega)])
  exact (hb.cell (World.block_lt_of_cell? _ _ this)).trans this

/-- Integers as cells. -/
def ncells (l : List Nat) : List Value := l.map fun (x : Nat) => .int .i64 (x : Int)
theorem ncells_append (l m : List Nat) : ncells (l ++ m) = ncells l ++ ncells m := by simp [ncells]
theorem ncells_length (l : List Nat) : (ncells l).length = l.length := by simp [ncells]

set_option maxRecDepth 100000 in
set_option maxHeartbeats 2000000 in
theorem light_any (A0 A1 A2 : Option Addr) (n0 c0 n1 c1 n2 c2 : Nat) (w : World) (hT : Tabs w) (b0 : n0 ≤ 9223372036854775807) (b1 : n1 ≤ 9223372036854775807) (b2 : n2 ≤ 9223372036854775807) (h : 40 < n0 ∨ n1 < n0 ∨ 40 < n2) :
    Calls Tryd.prog 6 #[.slice A0 n0 c0, .slice A1 n1 c1, .slice A2 n2 c2] w fun e w' => e = .returned (.bool true) ∧ Below w.heap.size w w' := by
  have HL := Lib.hid (lives_any w hT)
  clear hT
  by_cases k0 : 40 < n0
  · have z0 : (40 : Int) < (n0 : Int) := by omega
    clear h
    go_enter Tryd.func6, Tryd.ntmps6
    go_wp2_with fail
    refine HL.out.mono ?_
    rintro e w1 ⟨rfl, hb1⟩
    go_wp2_with fail
    go_ret
    exact ⟨rfl, hb1⟩
  · have z0 : ¬ (40 : Int) < (n0 : Int) := by omega
    by_cases k1 : n1 < n0
    · have z1 : (n1 : Int) < (n0 : Int) := by omega
      clear h
      go_enter Tryd.func6, Tryd.ntmps6
      go_wp2_with fail
      refine HL.out.mono ?_
      rintro e w1 ⟨rfl, hb1⟩
      go_wp2_with fail
      go_ret
      exact ⟨rfl, hb1⟩
    · have z1 : ¬ (n1 : Int) < (n0 : Int) := by omega
      have k2 : 40 < n2 := by omega
      have z2 : (40 : Int) < (n2 : Int) := by omega
      clear h
      go_enter Tryd.func6, Tryd.ntmps6
      go_wp2_with fail
      refine HL.out.mono ?_
      rintro e w1 ⟨rfl, hb1⟩
      go_wp2_with fail
      go_ret
      exact ⟨rfl, hb1⟩

/-- What holds between the rounds of the first loop. -/
structure Laid (w1 wr : World) (hp n : Nat) (a d : Nat → Nat) (lab : Nat → Option Lab) (P : Parts) : Prop where
  below : Below w1.heap.size w1 wr
  heap : HeapIs wr w1.heap.size hp 50 (obG a d n) lab P
/-- What Cons does in the first loop. -/
theorem Laid.cons {w1 wr : World} {hp k : Nat} {a d : Nat → Nat} {lab : Nat → Option Lab} {P : Parts} (h : Laid w1 wr hp k a d lab P) (hk : k < 50) :
    ∀ W, Below wr.heap.size wr W → Calls Tryd.prog 11 #[ptr hp, wd (2, (a k : Int)), wd (2, (d k : Int))] W fun e w' => e = .returned (.tuple #[wd (2, (k : Int)), .int .i64 0]) ∧ ∃ lab' P', Laid w1 w' hp (k + 1) a d lab' P' := by
  intro W hb
  have hs := Nat.le_trans h.below.size hb.size
  have hc := cons_any (h.heap.below hb) hs (2, (a k : Int)) (2, (d k : Int))
  rw [obG_add k 50 hk] at hc
  refine hc.mono ?_
  rintro e w' ⟨he, lab', P', hI, hA⟩
  exact ⟨he, lab', P', (h.below.trans (hb.mono h.below.size)).trans (after_below (h.heap.below hb) hs hA), hI⟩

/-- What holds between the rounds of the second loop and of the search. -/
structure Ws (w1 wr : World) (hp n gm : Nat) (a d : Nat → Nat) (lab : Nat → Option Lab) (P : Parts) (m : Nat → Bool) (sv : Value) (st : List Nat) (fv : Value) (F : List Nat) : Prop where
  laid : Laid w1 wr hp n a d lab P
  marks : Row wr gm (mcells 41 m)
  gmb : w1.heap.size ≤ gm
  gml : lab gm = none
  todo : wr.ownsRow w1.heap.size 3 1 sv st.length (ncells st)
  todol : ∀ b, sv.ownBlock = some b → lab b = none ∧ b ≠ gm
  from' : wr.ownsRow w1.heap.size 28 2 fv F.length (wcells (wds F))
  froml : ∀ b, fv.ownBlock = some b → lab b = none ∧ b ≠ gm ∧ sv.ownBlock ≠ some b
theorem Ws.later {w1 wr W : World} {hp n gm : Nat} {a d : Nat → Nat} {lab : Nat → Option Lab} {P : Parts} {m : Nat → Bool} {sv fv : Value} {st F : List Nat} (h : Ws w1 wr hp n gm a d lab P m sv st fv F) (hb : Below wr.heap.size wr W) : Ws w1 W hp n gm a d lab P m sv st fv F :=
  ⟨⟨h.laid.below.trans (hb.mono h.laid.below.size), h.laid.heap.below hb⟩, h.marks.below hb, h.gmb, h.gml, owns_below h.todo hb, h.todol, owns_below h.from' hb, h.froml⟩
/-- A push onto the list of what is to be done. -/
theorem Ws.push {w1 W w2 : World} {hp n gm c' : Nat} {a d : Nat → Nat} {lab : Nat → Option Lab} {P : Parts} {m : Nat → Bool} {sv fv : Value} {A' : Option Addr} {st F news : List Nat} {o : Obj} (h : Ws w1 W hp n gm a d lab P m sv st fv F)
    (ha : Appended (W.alloc o) w2 w1.heap.size 3 1 sv (.slice A' (st.length + news.length) c') (st.length + news.length) (ncells st ++ ncells news)) :
    Ws w1 w2 hp n gm a d lab P m (.slice A' (st.length + news.length) c') (st ++ news) fv F := by
  have hk := keeps_push (w := W) (o := o) ha.grown rfl rfl rfl rfl
  have hz : W.heap.size < (W.alloc o).heap.size := by simp
  have hnew : ∀ b, (Value.slice A' (st.length + news.length) c').ownBlock = some b → sv.ownBlock = some b ∨ b = (W.alloc o).heap.size := ha.place
  refine ⟨⟨h.laid.below.trans (hk.below h.laid.below.size fun b e => (h.todo.lt b e).1), h.laid.heap.keeps hk fun b e => (h.todol b e).1⟩, h.marks.keeps hk fun e => (h.todol gm e).2 rfl, h.gmb, h.gml, ?_, fun b e => ?_, owns_keeps h.from' hk fun b e => (h.froml b e).2.2, fun b e => ⟨(h.froml b e).1, (h.froml b e).2.1, fun e' => ?_⟩⟩
  · have hr := ha.row
    rw [← ncells_append] at hr
    rw [List.length_append]
    exact hr
  · rcases hnew b e with e | e
    · exact h.todol b e
    · have hg := h.marks.lt
      refine ⟨lab_none h.laid.heap (by omega), by omega⟩
  · rcases hnew b e' with e1 | e1
    · exact (h.froml b e).2.2 e1
    · have := (h.from'.lt b e).2
      omega
/-- A push onto the roots. -/
theorem Ws.root {w1 W w2 : World} {hp n gm c' : Nat} {a d : Nat → Nat} {lab : Nat → Option Lab} {P : Parts} {m : Nat → Bool} {sv fv : Value} {A' : Option Addr} {st F : List Nat} {x : Nat} {o : Obj} (h : Ws w1 W hp n gm a d lab P m sv st fv F)
    (ha : Appended (W.alloc o) w2 w1.heap.size 28 2 fv (.slice A' (F.length + 1) c') (F.length + 1) (wcells (wds F) ++ [.int .i64 2, .int .i64 (x : Int)])) :
    Ws w1 w2 hp n gm a d lab P m sv st (.slice A' (F.length + 1) c') (F ++ [x]) := by
  have hk := keeps_push (w := W) (o := o) ha.grown rfl rfl rfl rfl
  have hz : W.heap.size < (W.alloc o).heap.size := by simp
  have hnew : ∀ b, (Value.slice A' (F.length + 1) c').ownBlock = some b → fv.ownBlock = some b ∨ b = (W.alloc o).heap.size := ha.place
  refine ⟨⟨h.laid.below.trans (hk.below h.laid.below.size fun b e => (h.from'.lt b e).1), h.laid.heap.keeps hk fun b e => (h.froml b e).1⟩, h.marks.keeps hk fun e => (h.froml gm e).2.1 rfl, h.gmb, h.gml, owns_keeps h.todo hk fun b e e' => (h.froml b e').2.2 e, h.todol, ?_, fun b e => ?_⟩
  · have hr := ha.row
    rw [wds_append, LawFull.wcells_append, List.length_append]
    exact hr
  · rcases hnew b e with e | e
    · exact h.froml b e
    · have hg := h.marks.lt
      refine ⟨lab_none h.laid.heap (by omega), by omega, fun e' => ?_⟩
      have := (h.todo.lt b e').2
      omega
/-- Taking the last one away. -/
theorem Ws.pop {w1 W : World} {hp n gm g c x : Nat} {a d : Nat → Nat} {lab : Nat → Option Lab} {P : Parts} {m : Nat → Bool} {fv : Value} {st F : List Nat} (h : Ws w1 W hp n gm a d lab P m (.slice (some ⟨g, 0, none⟩) (st.length + 1) c) (st ++ [x]) fv F) :
    Ws w1 W hp n gm a d lab P m (.slice (some ⟨g, 0, none⟩) st.length c) st fv F := by
  refine ⟨h.laid, h.marks, h.gmb, h.gml, ?_, h.todol, h.from', h.froml⟩
  have hr := h.todo
  rw [List.length_append, List.length_singleton] at hr
  have := owns_cut hr (m := st.length) (by omega)
  rw [ncells_append, List.take_left' (ncells_length st)] at this
  exact this
/-- Marking one. -/
theorem Ws.mark {w1 W : World} {hp n gm x : Nat} {a d : Nat → Nat} {lab : Nat → Option Lab} {P : Parts} {m : Nat → Bool} {sv fv : Value} {st F : List Nat} (h : Ws w1 W hp n gm a d lab P m sv st fv F) :
    Ws w1 (W.setCell ⟨gm, x, none⟩ (.bool true)) hp n gm a d lab P (markAt m x) sv st fv F := by
  have hk := (Keeps.refl (fun b => b = gm) W).setCell ⟨gm, x, none⟩ (.bool true) fun _ => rfl
  refine ⟨⟨h.laid.below.setCell h.gmb _, h.laid.heap.keeps hk fun b e => by rw [e]; exact h.gml⟩, ?_, h.gmb, h.gml, owns_keeps h.todo hk fun b e e' => (h.todol b e).2 e', h.todol, owns_keeps h.from' hk fun b e e' => (h.froml b e).2.1 e', h.froml⟩
  rw [← mcells_mark]
  exact h.marks.set x _
end Go.Proofs.YtpofmbigclonlaaDoor.Coll
