/- The contracts of the methods of the free numbers. | The contracts of Push and Pop of the free numbers. | Which method an interface value's call comes to, at the types of package heap. | The contracts of container/heap's up and down at the free numbers. | The contract of container/heap's down at the free numbers. | The contracts of the free numbers' add and least: container/heap's Push and Pop at them. | The contracts of the free numbers' add and least. -/
import Derived.Test.YtlibdhnlmekmhaaGreatDoorRows
import Derived.WalkSpells
import Derived.WalkLawsBesides
import Derived.RegionTactic
import Derived.BigQuiet
import Derived.Deep.QuietTactic
import Derived.ChangeAlike
import Derived.LoopTactic
import Derived.Outline
import Derived.Test.YtlibdhnlmekmhaaGreatDoorMh17
import Derived.Test.YtlibdhnlmekmhaaGreatDoorMh18
/- The contracts of the methods of the free numbers. -/
section
namespace Go.Proofs.YtlibdhnlmekmhaaGreatDoor.Nums
open Go.RowKit
open Go.Proofs.YtlibdhnlmekmhaaGreatDoor.Own Go.Proofs.YtlibdhnlmekmhaaGreatDoor.Hp Go.Proofs.YtlibdhnlmekmhaaGreatDoor.HeapOrd Go.Proofs.YtlibdhnlmekmhaaGreatDoor.Rep

theorem len_any (A : Option Addr) (n c : Nat) (w : World) : Calls Tryz.prog 287 #[.slice A n c] w fun e w' => e = .returned (.int .i64 (n : Int)) ∧ w = w' := by
  go_enter Tryz.func287, Tryz.ntmps287
  go_wp2
  go_ret
  exact ⟨rfl, rfl⟩
theorem less_any (g n c i j : Nat) (x y : Int) (w : World) (hi : i < n) (hj : j < n) (h1 : w.cell? ⟨g, i, none⟩ = some (.int .i64 x)) (h2 : w.cell? ⟨g, j, none⟩ = some (.int .i64 y)) :
    Calls Tryz.prog 288 #[.slice (some ⟨g, 0, none⟩) n c, .int .i64 (i : Int), .int .i64 (j : Int)] w fun e w' => e = .returned (.bool (decide (x < y))) ∧ ∃ q, w' = w.drewN q := by
  go_enter Tryz.func288, Tryz.ntmps288
  go_wp2
  go_quiet (fail)
  go_wp2
  go_ret
  exact ⟨rfl, _, rfl⟩
set_option maxHeartbeats 2000000 in
theorem swap_core (g n c i j : Nat) (x y : Int) (w : World) (hi : i < n) (hj : j < n) (h1 : w.cell? ⟨g, i, none⟩ = some (.int .i64 x)) (h2 : w.cell? ⟨g, j, none⟩ = some (.int .i64 y))
    (f1 : w.frozen? ⟨g, i, none⟩ = false) (f2 : w.frozen? ⟨g, j, none⟩ = false) :
    Calls Tryz.prog 289 #[.slice (some ⟨g, 0, none⟩) n c, .int .i64 (i : Int), .int .i64 (j : Int)] w fun e w' => e = .returned (.tuple #[]) ∧ ∃ q, w' = ((w.setCell ⟨g, i, none⟩ (.int .i64 y)).setCell ⟨g, j, none⟩ (.int .i64 x)).drewN q := by
  obtain ⟨v', hy'⟩ := cell?_setCell_some (w := w) (p := ⟨g, i, none⟩) (x := .int .i64 y) (q := ⟨g, j, none⟩) (v := .int .i64 y) h2
  go_enter Tryz.func289, Tryz.ntmps289
  go_wp2
  go_region
  all_goals (go_end0; exact ⟨rfl, 1, rfl⟩)
theorem fcells_at (n : Nat) (f : Nat → Nat) (k : Nat) (h : k < n) : (fcells n f)[k]? = some (.int .i64 (f k : Int)) := by
  unfold fcells
  simp [h]
theorem fcells_swap (n : Nat) (f : Nat → Nat) (i j : Nat) (hi : i < n) (hj : j < n) : ((fcells n f).set i (.int .i64 (f j : Int))).set j (.int .i64 (f i : Int)) = fcells n (swap f i j) := by
  apply List.ext_getElem?
  intro k
  by_cases hk : k < n
  · rw [fcells_at n (swap f i j) k hk, List.getElem?_set, List.getElem?_set]
    have hl : (fcells n f).length = n := by simp [fcells]
    by_cases e : j = k
    · subst e
      rw [if_pos rfl, if_pos (by simpa [hl] using hj), swap_right]
    · rw [if_neg e]
      by_cases e2 : i = k
      · subst e2
        rw [if_pos rfl, if_pos (by simpa [hl] using hi), swap_left]
      · rw [if_neg e2, fcells_at n f k hk, swap_ne f (fun h => e2 h.symm) (fun h => e h.symm)]
  · rw [List.getElem?_eq_none (by simp [fcells]; omega), List.getElem?_eq_none (by simp [fcells]; omega)]
theorem swap_any (base g n c i j : Nat) (f : Nat → Nat) (w : World) (hi : i < n) (hj : j < n) (h : w.ownsRow base 3 1 (.slice (some ⟨g, 0, none⟩) n c) n (fcells n f)) :
    Calls Tryz.prog 289 #[.slice (some ⟨g, 0, none⟩) n c, .int .i64 (i : Int), .int .i64 (j : Int)] w fun e w' => e = .returned (.tuple #[]) ∧ w'.ownsRow base 3 1 (.slice (some ⟨g, 0, none⟩) n c) n (fcells n (swap f i j)) ∧ Keeps (fun b => b = g) w w' := by
  have hr := Row.of_owns h
  refine (swap_core g n c i j (f i) (f j) w hi hj (hr.cell i _ (fcells_at n f i hi)) (hr.cell j _ (fcells_at n f j hj)) (hr.free i) (hr.free j)).mono ?_
  rintro e w' ⟨he, q, rfl⟩
  refine ⟨he, ?_, (((Keeps.refl (fun b => b = g) w).setCell ⟨g, i, none⟩ _ fun _ => rfl).setCell ⟨g, j, none⟩ _ fun _ => rfl).drewN q⟩
  rw [← fcells_swap n f i j hi hj]
  exact owns_set (owns_set h i _) j _
end Go.Proofs.YtlibdhnlmekmhaaGreatDoor.Nums
end

/- The contracts of Push and Pop of the free numbers. -/
section
namespace Go.Proofs.YtlibdhnlmekmhaaGreatDoor.Nums
open Go.RowKit
open Go.Proofs.YtlibdhnlmekmhaaGreatDoor.Own Go.Proofs.YtlibdhnlmekmhaaGreatDoor.Hp Go.Proofs.YtlibdhnlmekmhaaGreatDoor.HeapOrd Go.Proofs.YtlibdhnlmekmhaaGreatDoor.Rep

theorem int_info : (Tryz.prog.info? 3).map (fun i => (i.zero, i.size, i.bytes)) = some (some (.int .i64 0), 1, 8) := by kernel_rfl
theorem owns_cut {w : World} {base : Nat} {e : TypeId} {g n c m : Nat} {xs : List Value} (h : w.ownsRow base e 1 (.slice (some ⟨g, 0, none⟩) n c) n xs) (hm : m ≤ n) : w.ownsRow base e 1 (.slice (some ⟨g, 0, none⟩) m c) m (xs.take m) := by
  have hl : xs.length = n := by have := h.1; omega
  obtain ⟨_, ⟨hv, _⟩ | ⟨g', cap, cur, hv, hb, hg, hc, hmx, hs, ht⟩⟩ := h
  · cases hv
  · cases hv
    refine ⟨by rw [List.length_take]; omega, .inr ⟨g, c, cur, rfl, hb, hg, by omega, hmx, hs, ?_⟩⟩
    rw [← ht, List.take_take]
    congr 1
    omega
theorem fcells_take (n m : Nat) (f : Nat → Nat) (h : m ≤ n) : (fcells n f).take m = fcells m f := by
  unfold fcells
  rw [← List.map_take, List.take_range]
  congr 2
  omega
theorem fcells_snoc (n : Nat) (f : Nat → Nat) (x : Nat) : fcells n f ++ [.int .i64 (x : Int)] = fcells (n + 1) (fun k => if k = n then x else f k) := by
  unfold fcells
  rw [List.range_succ, List.map_append]
  congr 1
  · apply List.map_congr_left
    intro k hk
    have := List.mem_range.1 hk
    show Value.int .i64 (f k : Int) = .int .i64 ((if k = n then x else f k : Nat) : Int)
    rw [if_neg (by omega)]
  · simp

set_option maxHeartbeats 1000000 in
theorem pop_any (hp k g n c : Nat) (x : Int) (w : World) (hn : n ≤ 65536) (hc : w.cell? ⟨hp, k, none⟩ = some (.slice (some ⟨g, 0, none⟩) (n + 1) c)) (hx : w.cell? ⟨g, n, none⟩ = some (.int .i64 x)) (hfr : w.frozen? ⟨hp, k, none⟩ = false) (hcap : n + 1 ≤ c) (_hcap2 : c ≤ 9223372036854775807) :
    Calls Tryz.prog 295 #[.pointer (some ⟨hp, k, none⟩)] w fun e w' => e = .returned (.iface 3 (.int .i64 x)) ∧ w' = w.setCell ⟨hp, k, none⟩ (.slice (some ⟨g, 0, none⟩) n c) := by
  go_enter Tryz.func295, Tryz.ntmps295
  go_wp2
  go_ret
  exact ⟨rfl, rfl⟩

theorem keeps_push {w W w1 : World} {o : Obj} {row : Option Nat} (hg : W.grownBy w1 row) (h1 : W.heap = (w.alloc o).heap) (h2 : W.os = w.os) (h3 : W.tape = w.tape) (h4 : W.output = w.output) : Keeps (fun b => row = some b) w w1 :=
  ⟨hg.os.trans h2, hg.tape.trans h3, hg.output.trans h4, by have := hg.size; rw [h1] at this; simp at this; omega, fun k hk hn => by
    have hs : W.heap.size = w.heap.size + 1 := by rw [h1]; simp
    rw [hg.block k (by omega) fun e => hn e.symm, h1]
    exact Below.heap_alloc _ _ _ hk⟩
theorem cell_keeps {F : Nat → Prop} {w w' : World} {a : Addr} {v : Value} (hk : Keeps F w w') (h : w.cell? a = some v) (hn : ¬ F a.block) : w'.cell? a = some v :=
  (World.cell?_of_block (hk.block _ (World.block_lt_of_cell? _ _ h) hn)).trans h
theorem alloc_le (w : World) (o : Obj) : w.heap.size ≤ (w.alloc o).heap.size := by simp
theorem as_int (v : Value) (w : World) : (Instr.typeAssert (.iface 3 v) 20 3 false).run Tryz.prog w = .ok v w := by kernel_rfl
end Go.Proofs.YtlibdhnlmekmhaaGreatDoor.Nums
end

/- Which method an interface value's call comes to, at the types of package heap. -/
section
namespace Go.Proofs.YtlibdhnlmekmhaaGreatDoor.Meth
open Go.RowKit

theorem wrapnil (t : TypeId) (a : Addr) (s : String) : Builtin.ssaWrapNilChk_ #[t] t #[.pointer (some a), strVal "", strVal s] = pure (.pointer (some a)) := rfl
/-- A method with a value receiver, called through a pointer. -/
theorem run_method_ptr {P : Program} {fuel : Nat} {t E : TypeId} {i : TypeInfo} {m : Method} {f : FuncId} {name : String} {a : Addr} {v : Value} {w : World}
    (hi : P.info? t = some i) (hm : i.methods.find? (·.name == name) = some m) (hp : m.path = #[]) (hf : m.func = some (f, false)) (ht : P.underlying t = some (.pointer E))
    (h : (loadVar E a).run P w = .ok v w) : (method (fuel + 1) t (.pointer (some a)) name).run P w = .ok (f, v) w := by
  simp [method, typeInfo, hi, hm, hp, hf, follow, receiverAt, Place.get, run_underlying ht, wrapnil, asAddr, h]
theorem of_find {P : Program} {t : TypeId} {name : String} {f : FuncId} (h : ((P.info? t).bind fun i => (i.methods.find? (·.name == name))).map (fun m => (m.path, m.func)) = some (#[], some (f, false))) :
    ∃ i m, P.info? t = some i ∧ i.methods.find? (·.name == name) = some m ∧ m.path = #[] ∧ m.func = some (f, false) := by
  obtain ⟨m, hm, he⟩ := Option.map_eq_some_iff.1 h
  obtain ⟨i, hi, hm⟩ := Option.bind_eq_some_iff.1 hm
  simp at he
  exact ⟨i, m, hi, hm, he.1, he.2⟩
theorem meth_len (hp k : Nat) (v : Value) (w : World) (h : w.cell? ⟨hp, k, none⟩ = some v) : (method 391 204 (.pointer (some ⟨hp, k, none⟩)) "Len").run Tryz.prog w = .ok (287, v) w := by
  obtain ⟨i, m, h1, h2, h3, h4⟩ := of_find (P := Tryz.prog) (t := 204) (name := "Len") (f := 287) (by kernel_rfl)
  exact run_method_ptr h1 h2 h3 h4 Tryz.underlying204 (by go_simp)
theorem meth_less (hp k : Nat) (v : Value) (w : World) (h : w.cell? ⟨hp, k, none⟩ = some v) : (method 391 204 (.pointer (some ⟨hp, k, none⟩)) "Less").run Tryz.prog w = .ok (288, v) w := by
  obtain ⟨i, m, h1, h2, h3, h4⟩ := of_find (P := Tryz.prog) (t := 204) (name := "Less") (f := 288) (by kernel_rfl)
  exact run_method_ptr h1 h2 h3 h4 Tryz.underlying204 (by go_simp)
theorem meth_swap (hp k : Nat) (v : Value) (w : World) (h : w.cell? ⟨hp, k, none⟩ = some v) : (method 391 204 (.pointer (some ⟨hp, k, none⟩)) "Swap").run Tryz.prog w = .ok (289, v) w := by
  obtain ⟨i, m, h1, h2, h3, h4⟩ := of_find (P := Tryz.prog) (t := 204) (name := "Swap") (f := 289) (by kernel_rfl)
  exact run_method_ptr h1 h2 h3 h4 Tryz.underlying204 (by go_simp)
theorem meth_push (a : Addr) (w : World) : (method 391 204 (.pointer (some a)) "Push").run Tryz.prog w = .ok (300, .pointer (some a)) w := by kernel_rfl
theorem meth_pop (a : Addr) (w : World) : (method 391 204 (.pointer (some a)) "Pop").run Tryz.prog w = .ok (295, .pointer (some a)) w := by kernel_rfl
theorem meth_cons (a : Addr) (w : World) : (method 391 93 (.pointer (some a)) "copyist/heap.size").run Tryz.prog w = .ok (286, .pointer (some a)) w := by kernel_rfl
theorem meth_text (a : Addr) (w : World) : (method 391 110 (.pointer (some a)) "copyist/heap.size").run Tryz.prog w = .ok (290, .pointer (some a)) w := by kernel_rfl
theorem meth_vector (a : Addr) (w : World) : (method 391 189 (.pointer (some a)) "copyist/heap.size").run Tryz.prog w = .ok (293, .pointer (some a)) w := by kernel_rfl
theorem meth_code (a : Addr) (w : World) : (method 391 190 (.pointer (some a)) "copyist/heap.size").run Tryz.prog w = .ok (294, .pointer (some a)) w := by kernel_rfl
end Go.Proofs.YtlibdhnlmekmhaaGreatDoor.Meth
end

/- The contracts of container/heap's up and down at the free numbers. -/
section
namespace Go.Proofs.YtlibdhnlmekmhaaGreatDoor.Nums
set_option maxRecDepth 100000
open Go.RowKit
open Go.Proofs.YtlibdhnlmekmhaaGreatDoor.Own Go.Proofs.YtlibdhnlmekmhaaGreatDoor.Hp Go.Proofs.YtlibdhnlmekmhaaGreatDoor.HeapOrd Go.Proofs.YtlibdhnlmekmhaaGreatDoor.Rep Go.Proofs.YtlibdhnlmekmhaaGreatDoor.Meth

/-- What up and down keep: the row of the numbers, in another order; all else as it was. -/
structure Sifted (w wr : World) (base g c n : Nat) (f0 f : Nat → Nat) : Prop where
  row : wr.ownsRow base 3 1 (.slice (some ⟨g, 0, none⟩) n c) n (fcells n f)
  keeps : Keeps (fun b => b = g) w wr
  sames : Sames n f0 f

end Go.Proofs.YtlibdhnlmekmhaaGreatDoor.Nums
end

/- The contract of container/heap's down at the free numbers. -/
section
namespace Go.Proofs.YtlibdhnlmekmhaaGreatDoor.Nums
set_option maxRecDepth 100000
open Go.RowKit
open Go.Proofs.YtlibdhnlmekmhaaGreatDoor.Own Go.Proofs.YtlibdhnlmekmhaaGreatDoor.Hp Go.Proofs.YtlibdhnlmekmhaaGreatDoor.HeapOrd Go.Proofs.YtlibdhnlmekmhaaGreatDoor.Rep Go.Proofs.YtlibdhnlmekmhaaGreatDoor.Meth

theorem less_at (g n c i j : Nat) (a b : Int) (ha : a = (i : Int)) (hb : b = (j : Int)) (x y : Int) (w : World) (hi : i < n) (hj : j < n) (h1 : w.cell? ⟨g, i, none⟩ = some (.int .i64 x)) (h2 : w.cell? ⟨g, j, none⟩ = some (.int .i64 y)) :
    Calls Tryz.prog 288 #[.slice (some ⟨g, 0, none⟩) n c, .int .i64 a, .int .i64 b] w fun e w' => e = .returned (.bool (decide (x < y))) ∧ ∃ q, w' = w.drewN q := by
  subst ha hb
  exact less_any g n c i j x y w hi hj h1 h2
theorem swap_at' (base g n c i j : Nat) (a b : Int) (ha : a = (i : Int)) (hb : b = (j : Int)) (f : Nat → Nat) (w : World) (hi : i < n) (hj : j < n) (h : w.ownsRow base 3 1 (.slice (some ⟨g, 0, none⟩) n c) n (fcells n f)) :
    Calls Tryz.prog 289 #[.slice (some ⟨g, 0, none⟩) n c, .int .i64 a, .int .i64 b] w fun e w' => e = .returned (.tuple #[]) ∧ w'.ownsRow base 3 1 (.slice (some ⟨g, 0, none⟩) n c) n (fcells n (swap f i j)) ∧ Keeps (fun b => b = g) w w' := by
  subst ha hb
  exact swap_any base g n c i j f w hi hj h

structure SiftedD (w wr : World) (base g c m : Nat) (f0 f : Nat → Nat) : Prop extends Sifted w wr base g c (m + 1) f0 f where
  last : f m = f0 m

set_option maxHeartbeats 8000000 in
theorem down_any (base hp k g c m : Nat) (f0 : Nat → Nat) (w : World) (hn : m ≤ 65536) (hc : w.cell? ⟨hp, k, none⟩ = some (.slice (some ⟨g, 0, none⟩) (m + 1) c)) (hne : hp ≠ g)
    (h0 : w.ownsRow base 3 1 (.slice (some ⟨g, 0, none⟩) (m + 1) c) (m + 1) (fcells (m + 1) f0)) (hu : DownInv f0 m 0) :
    Calls Tryz.prog 231 #[.iface 204 (.pointer (some ⟨hp, k, none⟩)), .int .i64 0, .int .i64 (m : Int)] w fun e w' => (∃ b, e = .returned (.bool b)) ∧ ∃ f, SiftedD w w' base g c m f0 f ∧ Ord f m := by
  have hS : SiftedD w w base g c m f0 f0 := ⟨⟨h0, .refl _ _, .refl _ _⟩, rfl⟩
  have HS := Lib.hid hS
  have HU := Lib.hid hu
  have mLess := meth_less hp k
  have mSwap := meth_swap hp k
  have HNe := Lib.hid hne
  have HC := Lib.hid hc
  clear h0 hS hu hne hc
  go_enter Tryz.func231, Tryz.ntmps231
  go_wp2
  go_loopw [7] (fun j wr => ∃ i f, j = .int .i64 (i : Nat) ∧ Hid (SiftedD w wr base g c m f0 f) ∧ Hid (DownInv f m i) ∧ i ≤ m) (fun j _ => m - (intOf j).toNat)
  case atStart => exact ⟨0, f0, rfl, HS, HU, by omega⟩
  case round =>
    obtain ⟨i, f, rfl, HS1, HD1, him⟩ := hrel
    have hc1 : wr.cell? ⟨hp, k, none⟩ = some (.slice (some ⟨g, 0, none⟩) (m + 1) c) := cell_keeps HS1.out.keeps HC.out (fun e => HNe.out e)
    have hcell : ∀ a, a < m + 1 → wr.cell? ⟨g, a, none⟩ = some (.int .i64 (f a : Int)) := fun a ha => (Row.of_owns HS1.out.row).cell a _ (fcells_at (m + 1) f a ha)
    by_cases hleaf : m ≤ 2 * i + 1
    · have hd1 : decide ((m : Int) ≤ 2 * (i : Int) + 1) = true := decide_eq_true (by omega)
      clear hcell
      go_wp2_with fail
      go_ret
      exact ⟨⟨_, rfl⟩, f, HS1.out, HD1.out.leaf hleaf⟩
    · have hd1 : decide ((m : Int) ≤ 2 * (i : Int) + 1) = false := decide_eq_false (by omega)
      have hd2 : decide (2 * (i : Int) + 1 < 0) = false := decide_eq_false (by omega)
      by_cases h2 : 2 * i + 2 < m
      · have hd3 : decide (2 * (i : Int) + 1 + 1 < m) = true := decide_eq_true (by omega)
        by_cases hless : f (2 * i + 2) < f (2 * i + 1)
        · have hb1 : decide ((f (2 * i + 2) : Int) < (f (2 * i + 1) : Int)) = true := decide_eq_true (by omega)
          have HB1 := Lib.hid hb1
          clear hb1
          by_cases hlt2 : f (2 * i + 2) < f i
          · have hb2 : decide ((f (2 * i + 2) : Int) < (f i : Int)) = true := decide_eq_true (by omega)
            have HB2 := Lib.hid hb2
            clear hb2
            go_wp2_with fail
            refine (less_at g (m + 1) c (2 * i + 2) (2 * i + 1) _ _ (by omega) (by omega) (f (2 * i + 2) : Int) (f (2 * i + 1) : Int) _ (by omega) (by omega) (by exact hcell (2 * i + 2) (by omega)) (by exact hcell (2 * i + 1) (by omega))).mono ?_
            rintro e w1 ⟨rfl, q1, rfl⟩
            rw [HB1.out]
            go_wp2_with fail
            refine (less_at g (m + 1) c (2 * i + 2) i _ _ (by omega) (by omega) (f (2 * i + 2) : Int) (f i : Int) _ (by omega) (by omega) (by exact hcell (2 * i + 2) (by omega)) (by exact hcell i (by omega))).mono ?_
            rintro e w2 ⟨rfl, q2, rfl⟩
            rw [HB2.out]
            go_wp2_with fail
            refine (swap_at' base g (m + 1) c i (2 * i + 2) _ _ (by omega) (by omega) f _ (by omega) (by omega) (by exact HS1.out.row)).mono ?_
            rintro e w3 ⟨rfl, hrow, hk⟩
            have HS2 := Lib.hid (show SiftedD w w3 base g c m f0 (swap f i (2 * i + 2)) from ⟨⟨hrow, (HS1.out.keeps.trans (Keeps.of_below (Go.Proofs.YtlibdhnlmekmhaaGreatDoor.Own.below_drewN (Below.refl _ _) _))).trans hk, HS1.out.sames.trans (sames_swap (m + 1) f i (2 * i + 2) (by omega) (by omega))⟩, by rw [swap_ne f (by omega) (by omega)]; exact HS1.out.last⟩)
            have HD2 := Lib.hid (HD1.out.step (j := 2 * i + 2) (by omega) (by omega) hlt2 (by omega) (fun _ => by omega))
            clear hrow hk hlt2 hcell HS1 HD1
            go_wp2_with fail
            go_roundw
            case rel => exact ⟨2 * i + 2, _, by go_num, HS2, HD2, by omega⟩
            case measure => simp [intOf]; omega
          · have hb2 : decide ((f (2 * i + 2) : Int) < (f i : Int)) = false := decide_eq_false (by omega)
            have HB2 := Lib.hid hb2
            clear hb2
            go_wp2_with fail
            refine (less_at g (m + 1) c (2 * i + 2) (2 * i + 1) _ _ (by omega) (by omega) (f (2 * i + 2) : Int) (f (2 * i + 1) : Int) _ (by omega) (by omega) (by exact hcell (2 * i + 2) (by omega)) (by exact hcell (2 * i + 1) (by omega))).mono ?_
            rintro e w1 ⟨rfl, q1, rfl⟩
            rw [HB1.out]
            go_wp2_with fail
            refine (less_at g (m + 1) c (2 * i + 2) i _ _ (by omega) (by omega) (f (2 * i + 2) : Int) (f i : Int) _ (by omega) (by omega) (by exact hcell (2 * i + 2) (by omega)) (by exact hcell i (by omega))).mono ?_
            rintro e w2 ⟨rfl, q2, rfl⟩
            rw [HB2.out]
            go_wp2_with fail
            go_ret
            exact ⟨⟨_, rfl⟩, f, ⟨⟨by exact HS1.out.row, HS1.out.keeps.trans (Keeps.of_below (Go.Proofs.YtlibdhnlmekmhaaGreatDoor.Own.below_drewN (Below.refl _ _) _)), HS1.out.sames⟩, HS1.out.last⟩, HD1.out.stop (fun _ => by omega) (fun _ => by omega)⟩
        · have hb1 : decide ((f (2 * i + 2) : Int) < (f (2 * i + 1) : Int)) = false := decide_eq_false (by omega)
          have HB1 := Lib.hid hb1
          clear hb1
          by_cases hlt2 : f (2 * i + 1) < f i
          · have hb2 : decide ((f (2 * i + 1) : Int) < (f i : Int)) = true := decide_eq_true (by omega)
            have HB2 := Lib.hid hb2
            clear hb2
            go_wp2_with fail
            refine (less_at g (m + 1) c (2 * i + 2) (2 * i + 1) _ _ (by omega) (by omega) (f (2 * i + 2) : Int) (f (2 * i + 1) : Int) _ (by omega) (by omega) (by exact hcell (2 * i + 2) (by omega)) (by exact hcell (2 * i + 1) (by omega))).mono ?_
            rintro e w1 ⟨rfl, q1, rfl⟩
            rw [HB1.out]
            go_wp2_with fail
            refine (less_at g (m + 1) c (2 * i + 1) i _ _ (by omega) (by omega) (f (2 * i + 1) : Int) (f i : Int) _ (by omega) (by omega) (by exact hcell (2 * i + 1) (by omega)) (by exact hcell i (by omega))).mono ?_
            rintro e w2 ⟨rfl, q2, rfl⟩
            rw [HB2.out]
            go_wp2_with fail
            refine (swap_at' base g (m + 1) c i (2 * i + 1) _ _ (by omega) (by omega) f _ (by omega) (by omega) (by exact HS1.out.row)).mono ?_
            rintro e w3 ⟨rfl, hrow, hk⟩
            have HS2 := Lib.hid (show SiftedD w w3 base g c m f0 (swap f i (2 * i + 1)) from ⟨⟨hrow, (HS1.out.keeps.trans (Keeps.of_below (Go.Proofs.YtlibdhnlmekmhaaGreatDoor.Own.below_drewN (Below.refl _ _) _))).trans hk, HS1.out.sames.trans (sames_swap (m + 1) f i (2 * i + 1) (by omega) (by omega))⟩, by rw [swap_ne f (by omega) (by omega)]; exact HS1.out.last⟩)
            have HD2 := Lib.hid (HD1.out.step (j := 2 * i + 1) (by omega) (by omega) hlt2 (by omega) (fun _ => by omega))
            clear hrow hk hlt2 hcell HS1 HD1
            go_wp2_with fail
            go_roundw
            case rel => exact ⟨2 * i + 1, _, by go_num, HS2, HD2, by omega⟩
            case measure => simp [intOf]; omega
          · have hb2 : decide ((f (2 * i + 1) : Int) < (f i : Int)) = false := decide_eq_false (by omega)
            have HB2 := Lib.hid hb2
            clear hb2
            go_wp2_with fail
            refine (less_at g (m + 1) c (2 * i + 2) (2 * i + 1) _ _ (by omega) (by omega) (f (2 * i + 2) : Int) (f (2 * i + 1) : Int) _ (by omega) (by omega) (by exact hcell (2 * i + 2) (by omega)) (by exact hcell (2 * i + 1) (by omega))).mono ?_
            rintro e w1 ⟨rfl, q1, rfl⟩
            rw [HB1.out]
            go_wp2_with fail
            refine (less_at g (m + 1) c (2 * i + 1) i _ _ (by omega) (by omega) (f (2 * i + 1) : Int) (f i : Int) _ (by omega) (by omega) (by exact hcell (2 * i + 1) (by omega)) (by exact hcell i (by omega))).mono ?_
            rintro e w2 ⟨rfl, q2, rfl⟩
            rw [HB2.out]
            go_wp2_with fail
            go_ret
            exact ⟨⟨_, rfl⟩, f, ⟨⟨by exact HS1.out.row, HS1.out.keeps.trans (Keeps.of_below (Go.Proofs.YtlibdhnlmekmhaaGreatDoor.Own.below_drewN (Below.refl _ _) _)), HS1.out.sames⟩, HS1.out.last⟩, HD1.out.stop (fun _ => by omega) (fun _ => by omega)⟩
      · have hd3 : decide (2 * (i : Int) + 1 + 1 < m) = false := decide_eq_false (by omega)
        by_cases hlt2 : f (2 * i + 1) < f i
        · have hb2 : decide ((f (2 * i + 1) : Int) < (f i : Int)) = true := decide_eq_true (by omega)
          have HB2 := Lib.hid hb2
          clear hb2
          go_wp2_with fail
          refine (less_at g (m + 1) c (2 * i + 1) i _ _ (by omega) (by omega) (f (2 * i + 1) : Int) (f i : Int) _ (by omega) (by omega) (by exact hcell (2 * i + 1) (by omega)) (by exact hcell i (by omega))).mono ?_
          rintro e w2 ⟨rfl, q2, rfl⟩
          rw [HB2.out]
          go_wp2_with fail
          refine (swap_at' base g (m + 1) c i (2 * i + 1) _ _ (by omega) (by omega) f _ (by omega) (by omega) (by exact HS1.out.row)).mono ?_
          rintro e w3 ⟨rfl, hrow, hk⟩
          have HS2 := Lib.hid (show SiftedD w w3 base g c m f0 (swap f i (2 * i + 1)) from ⟨⟨hrow, (HS1.out.keeps.trans (Keeps.of_below (Go.Proofs.YtlibdhnlmekmhaaGreatDoor.Own.below_drewN (Below.refl _ _) _))).trans hk, HS1.out.sames.trans (sames_swap (m + 1) f i (2 * i + 1) (by omega) (by omega))⟩, by rw [swap_ne f (by omega) (by omega)]; exact HS1.out.last⟩)
          have HD2 := Lib.hid (HD1.out.step (j := 2 * i + 1) (by omega) (by omega) hlt2 (by omega) (fun h => absurd h h2))
          clear hrow hk hlt2 hcell HS1 HD1
          go_wp2_with fail
          go_roundw
          case rel => exact ⟨2 * i + 1, _, by go_num, HS2, HD2, by omega⟩
          case measure => simp [intOf]; omega
        · have hb2 : decide ((f (2 * i + 1) : Int) < (f i : Int)) = false := decide_eq_false (by omega)
          have HB2 := Lib.hid hb2
          clear hb2
          go_wp2_with fail
          refine (less_at g (m + 1) c (2 * i + 1) i _ _ (by omega) (by omega) (f (2 * i + 1) : Int) (f i : Int) _ (by omega) (by omega) (by exact hcell (2 * i + 1) (by omega)) (by exact hcell i (by omega))).mono ?_
          rintro e w2 ⟨rfl, q2, rfl⟩
          rw [HB2.out]
          go_wp2_with fail
          go_ret
          exact ⟨⟨_, rfl⟩, f, ⟨⟨by exact HS1.out.row, HS1.out.keeps.trans (Keeps.of_below (Go.Proofs.YtlibdhnlmekmhaaGreatDoor.Own.below_drewN (Below.refl _ _) _)), HS1.out.sames⟩, HS1.out.last⟩, HD1.out.stop (fun _ => by omega) (fun _ => by omega)⟩
end Go.Proofs.YtlibdhnlmekmhaaGreatDoor.Nums
end

/- The contracts of the free numbers' add and least: container/heap's Push and Pop at them. -/
section
namespace Go.Proofs.YtlibdhnlmekmhaaGreatDoor.Nums
set_option maxRecDepth 100000
open Go.RowKit
open Go.Proofs.YtlibdhnlmekmhaaGreatDoor.Own Go.Proofs.YtlibdhnlmekmhaaGreatDoor.Hp Go.Proofs.YtlibdhnlmekmhaaGreatDoor.HeapOrd Go.Proofs.YtlibdhnlmekmhaaGreatDoor.Rep Go.Proofs.YtlibdhnlmekmhaaGreatDoor.Meth

def snoc (f : Nat → Nat) (n x : Nat) : Nat → Nat := fun k => if k = n then x else f k
theorem setOut (cs : Array Value) (k : Nat) (v u : Value) (h : cs[k]? = some v) : (cs.setIfInBounds k u)[k]? = some u := by
  have := (Array.getElem?_eq_some_iff.1 h).1
  simp [this]

/-- What add leaves. -/
structure Added (w w' : World) (base hp k n x : Nat) (cs : Array Value) (t : TypeId) (v v' : Value) (f f' : Nat → Nat) : Prop where
  blk : Blk w' hp (cs.setIfInBounds k v') t
  row : w'.ownsRow base 3 1 v' (n + 1) (fcells (n + 1) f')
  keeps : Keeps (fun b => b = hp ∨ v.ownBlock = some b) w w'
  place : ∀ b, v'.ownBlock = some b → v.ownBlock = some b ∨ w.heap.size ≤ b
  sames : Sames (n + 1) (snoc f n x) f'

end Go.Proofs.YtlibdhnlmekmhaaGreatDoor.Nums
end

/- The contracts of the free numbers' add and least. -/
section
namespace Go.Proofs.YtlibdhnlmekmhaaGreatDoor.Nums
set_option maxRecDepth 100000
open Go.RowKit
open Go.Proofs.YtlibdhnlmekmhaaGreatDoor.Own Go.Proofs.YtlibdhnlmekmhaaGreatDoor.Hp Go.Proofs.YtlibdhnlmekmhaaGreatDoor.HeapOrd Go.Proofs.YtlibdhnlmekmhaaGreatDoor.Rep Go.Proofs.YtlibdhnlmekmhaaGreatDoor.Meth

/-- What least leaves. -/
structure Taken (w w' : World) (base hp k n g c : Nat) (cs : Array Value) (t : TypeId) (f f' : Nat → Nat) : Prop where
  blk : Blk w' hp (cs.setIfInBounds k (.slice (some ⟨g, 0, none⟩) n c)) t
  row : w'.ownsRow base 3 1 (.slice (some ⟨g, 0, none⟩) n c) n (fcells n f')
  keeps : Keeps (fun b => b = hp ∨ b = g) w w'
  sames : Sames (n + 1) f f'
  last : f' n = f 0
  ord : Ord f' n

set_option maxHeartbeats 2000000 in
theorem hpop_any (base hp k n g c : Nat) (f : Nat → Nat) (cs : Array Value) (t : TypeId) (w : World) (hn : n ≤ 65536) (hB : Blk w hp cs t) (hv : cs[k]? = some (.slice (some ⟨g, 0, none⟩) (n + 1) c)) (hown : w.ownsRow base 3 1 (.slice (some ⟨g, 0, none⟩) (n + 1) c) (n + 1) (fcells (n + 1) f)) (hne : hp ≠ g) (ho : Ord f (n + 1)) :
    Calls Tryz.prog 210 #[.iface 204 (.pointer (some ⟨hp, k, none⟩))] w fun e w' => e = .returned (.iface 3 (.int .i64 (f 0 : Int))) ∧ ∃ f', Taken w w' base hp k n g c cs t f f' := by
  have mLen := meth_len hp k
  have mSwap := meth_swap hp k
  have mPop := meth_pop ⟨hp, k, none⟩
  have hc0 := hB.cell k _ hv
  have HB := Lib.hid hB
  have HV := Lib.hid hv
  have HOw := Lib.hid hown
  have HO := Lib.hid ho
  have HNe := Lib.hid hne
  have hcap : n + 1 ≤ c ∧ c ≤ 9223372036854775807 := by
    rcases hown.2 with ⟨h, _⟩ | ⟨g', cap, cur, hh, _, _, h1, h2, _⟩
    · cases h
    · cases hh; exact ⟨h1, by unfold maxLen at h2; omega⟩
  obtain ⟨hcap1, hcap2⟩ := hcap
  clear hB hv hown ho hne
  go_enter Tryz.func210, Tryz.ntmps210
  go_wp2_with (go_at_call 287; refine (len_any _ _ _ _).mono ?_; rintro e w' ⟨rfl, rfl⟩)
  refine (swap_at' base g (n + 1) c 0 n _ _ (by omega) (by omega) f w (by omega) (by omega) HOw.out).mono ?_
  rintro e w1 ⟨rfl, hrow, hk⟩
  have hc1 := cell_keeps hk hc0 HNe.out
  have hD := down_any base hp k g c n (swap f 0 n) w1 hn hc1 HNe.out hrow HO.out.pop
  have HD := Lib.hid hD
  have HK1 := Lib.hid hk
  clear hD hk hrow
  go_wp2_with fail
  refine HD.out.mono ?_
  rintro e w2 ⟨⟨b, rfl⟩, f', hs, ho'⟩
  have hc2 := cell_keeps hs.keeps hc1 HNe.out
  have hB2 := (HB.out.keeps HK1.out (fun e => HNe.out e)).keeps hs.keeps (fun e => HNe.out e)
  have hl : f' n = f 0 := by rw [hs.last, swap_right]
  have hx : w2.cell? ⟨g, n, none⟩ = some (.int .i64 (f 0 : Int)) := by
    rw [← hl]
    exact (Row.of_owns hs.row).cell n _ (fcells_at (n + 1) f' n (by omega))
  have hP := pop_any hp k g n c (f 0 : Int) w2 hn hc2 hx (hB2.free k) hcap1 hcap2
  have HP := Lib.hid hP
  have hfin : Taken w (w2.setCell ⟨hp, k, none⟩ (.slice (some ⟨g, 0, none⟩) n c)) base hp k n g c cs t f f' := by
    refine ⟨hB2.set k _, ?_, ?_, (sames_swap (n + 1) f 0 n (by omega) (by omega)).trans hs.sames, hl, ho'⟩
    · have h1 := owns_cut hs.row (m := n) (by omega)
      rw [fcells_take (n + 1) n f' (by omega)] at h1
      exact owns_keeps h1 ((Keeps.refl (fun b => b = hp) w2).setCell ⟨hp, k, none⟩ _ fun _ => rfl) fun b hb e => by
        simp only [Value.ownBlock, Option.some.injEq] at hb
        exact HNe.out (by rw [hb]; exact e.symm)
    · exact ((HK1.out.mono fun b _ e => .inr e).trans (hs.keeps.mono fun b _ e => .inr e)).setCell ⟨hp, k, none⟩ _ fun _ => .inl rfl
  have HF := Lib.hid hfin
  clear hfin hP hx hl hB2 hs ho' hc2 hc1
  go_wp2_with fail
  refine HP.out.mono ?_
  rintro e w3 ⟨rfl, rfl⟩
  go_wp2_with fail
  go_ret
  exact ⟨rfl, f', HF.out⟩

set_option maxHeartbeats 1000000 in
theorem least_any (base hp k n g c : Nat) (f : Nat → Nat) (cs : Array Value) (t : TypeId) (w : World) (hn : n ≤ 65536) (hB : Blk w hp cs t) (hv : cs[k]? = some (.slice (some ⟨g, 0, none⟩) (n + 1) c)) (hown : w.ownsRow base 3 1 (.slice (some ⟨g, 0, none⟩) (n + 1) c) (n + 1) (fcells (n + 1) f)) (hne : hp ≠ g) (ho : Ord f (n + 1)) :
    Calls Tryz.prog 190 #[.pointer (some ⟨hp, k, none⟩)] w fun e w' => e = .returned (.int .i64 (f 0 : Int)) ∧ ∃ f', Taken w w' base hp k n g c cs t f f' := by
  have hP := hpop_any base hp k n g c f cs t w hn hB hv hown hne ho
  have HP := Lib.hid hP
  have a1 := as_int
  clear hP hB hv hown hne ho
  go_enter Tryz.func190, Tryz.ntmps190
  go_wp2_with fail
  refine HP.out.mono ?_
  rintro e w1 ⟨rfl, h⟩
  have H := Lib.hid h
  clear h
  go_wp2_with fail
  go_ret
  exact ⟨rfl, H.out⟩
end Go.Proofs.YtlibdhnlmekmhaaGreatDoor.Nums
end
