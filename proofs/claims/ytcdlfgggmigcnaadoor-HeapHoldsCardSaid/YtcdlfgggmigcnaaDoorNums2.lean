/- The contracts of Push and Pop of the free numbers. -/
import Derived.Test.YtcdlfgggmigcnaaDoorNums
import Derived.Test.YtcdlfgggmigcnaaDoorAppend
namespace Go.Proofs.YtcdlfgggmigcnaaDoor.Nums
open Go.RowKit
open Go.Proofs.YtcdlfgggmigcnaaDoor.Own Go.Proofs.YtcdlfgggmigcnaaDoor.Hp Go.Proofs.YtcdlfgggmigcnaaDoor.HeapOrd Go.Proofs.YtcdlfgggmigcnaaDoor.Rep

theorem int_info : (Tryd.prog.info? 3).map (fun i => (i.zero, i.size, i.bytes)) = some (some (.int .i64 0), 1, 8) := by kernel_rfl
theorem owns_cut {w : World} {base : Nat} {e : TypeId} {g n c m : Nat} {xs : List Value} (h : w.ownsRow base e 1 (.slice (some ⟨g, 0, none⟩) n c) n xs) (hm : m ≤ n) : w.ownsRow base e 1 (.slice (some ⟨g, 0, none⟩) m c) m (xs.take m) := by
  have hl : xs.length = n := by have := h.1; omega
  obtain ⟨_, ⟨hv, _⟩ | ⟨g', cap, cur, hv, hb, hg, hc, hmx, hs, ht⟩⟩ := h
  · cases hv
  · cases hv
    refine ⟨by rw [List.length_take]; omega, .inr ⟨g, c, cur, rfl, hb, hg, by omega, hmx, hs, ?_⟩⟩
    rw [← ht, List.take_take]
    congr 1
    omega
theorem fcells_take (n m : Nat) (f : Nat → Nat) (h : m ≤ n) : (fcells n f).take m = fcells m f := by
  unfold fcells
  rw [← List.map_take, List.take_range]
  congr 2
  omega
theorem fcells_snoc (n : Nat) (f : Nat → Nat) (x : Nat) : fcells n f ++ [.int .i64 (x : Int)] = fcells (n + 1) (fun k => if k = n then x else f k) := by
  unfold fcells
  rw [List.range_succ, List.map_append]
  congr 1
  · apply List.map_congr_left
    intro k hk
    have := List.mem_range.1 hk
    show Value.int .i64 (f k : Int) = .int .i64 ((if k = n then x else f k : Nat) : Int)
    rw [if_neg (by omega)]
  · simp

set_option maxHeartbeats 1000000 in
theorem pop_any (hp k g n c : Nat) (x : Int) (w : World) (hn : n ≤ 65536) (hc : w.cell? ⟨hp, k, none⟩ = some (.slice (some ⟨g, 0, none⟩) (n + 1) c)) (hx : w.cell? ⟨g, n, none⟩ = some (.int .i64 x)) (hfr : w.frozen? ⟨hp, k, none⟩ = false) (hcap : n + 1 ≤ c) (_hcap2 : c ≤ 9223372036854775807) :
    Calls Tryd.prog 164 #[.pointer (some ⟨hp, k, none⟩)] w fun e w' => e = .returned (.iface 3 (.int .i64 x)) ∧ w' = w.setCell ⟨hp, k, none⟩ (.slice (some ⟨g, 0, none⟩) n c) := by
  go_enter Tryd.func164, Tryd.ntmps164
  go_wp2
  go_ret
  exact ⟨rfl, rfl⟩

theorem keeps_push {w W w1 : World} {o : Obj} {row : Option Nat} (hg : W.grownBy w1 row) (h1 : W.heap = (w.alloc o).heap) (h2 : W.os = w.os) (h3 : W.tape = w.tape) (h4 : W.output = w.output) : Keeps (fun b => row = some b) w w1 :=
  ⟨hg.os.trans h2, hg.tape.trans h3, hg.output.trans h4, by have := hg.size; rw [h1] at this; simp at this; omega, fun k hk hn => by
    have hs : W.heap.size = w.heap.size + 1 := by rw [h1]; simp
    rw [hg.block k (by omega) fun e => hn e.symm, h1]
    exact Below.heap_alloc _ _ _ hk⟩
theorem cell_keeps {F : Nat → Prop} {w w' : World} {a : Addr} {v : Value} (hk : Keeps F w w') (h : w.cell? a = some v) (hn : ¬ F a.block) : w'.cell? a = some v :=
  (World.cell?_of_block (hk.block _ (World.block_lt_of_cell? _ _ h) hn)).trans h
theorem alloc_le (w : World) (o : Obj) : w.heap.size ≤ (w.alloc o).heap.size := by simp
theorem as_int (v : Value) (w : World) : (Instr.typeAssert (.iface 3 v) 20 3 false).run Tryd.prog w = .ok v w := by kernel_rfl
set_option maxHeartbeats 4000000 in
theorem push_core (base hp k n : Nat) (x : Int) (v : Value) (xs : List Value) (w : World) (hn : n ≤ 65536) (hc : w.cell? ⟨hp, k, none⟩ = some v) (hfr : w.frozen? ⟨hp, k, none⟩ = false) (hown : w.ownsRow base 3 1 v n xs) (hb : base ≤ w.heap.size) (hne : v.ownBlock ≠ some hp) :
    Calls Tryd.prog 165 #[.pointer (some ⟨hp, k, none⟩), .iface 3 (.int .i64 x)] w fun e w' => e = .returned (.tuple #[]) ∧ ∃ v' w1, w1.ownsRow base 3 1 v' (n + 1) (xs ++ [.int .i64 x]) ∧ Keeps (fun b => v.ownBlock = some b) w w1 ∧ (∀ b, v'.ownBlock = some b → v.ownBlock = some b ∨ w.heap.size ≤ b) ∧ w' = w1.setCell ⟨hp, k, none⟩ v' := by
  obtain ⟨i0, hi, hz0, hz1, hz2⟩ := info_parts int_info
  have HI := Lib.hid hi
  have HZ0 := Lib.hid hz0
  have HZ1 := Lib.hid hz1
  have HZ2 := Lib.hid hz2
  have a1 := as_int
  have hc1 := more hc
  have hf1 : ∀ o, (w.alloc o).frozen? ⟨hp, k, none⟩ = false := fun o => (((Below.refl _ _).alloc (Nat.le_refl _) o).frozen (World.block_lt_of_cell? _ _ hc)).trans hfr
  have HOw := Lib.hid hown
  have HNe := Lib.hid (show some (⟨hp, k, none⟩ : Addr).block ≠ v.ownBlock from fun e => hne e.symm)
  clear hi hz0 hz1 hz2 hown hne
  go_enter Tryd.func165, Tryd.ntmps165
  go_wp2
  go_region_law ((refine step_append_place rfl (.tmp 7) (.tmp 10) 104 rfl base 3 i0 (.int .i64 0) 1 8 Tryd.underlying104 HI.out HZ0.out HZ1.out HZ2.out rfl (by decide) v n xs rfl (by exact HOw.out.alloc _) ⟨w.heap.size, 0, none⟩ 1 1 [.int .i64 x] rfl rfl (by intro j u hj; cases j with | zero => (simp at hj; subst hj; go_simp) | succ j => simp at hj) (by intro u hu; simp at hu; subst hu; rfl) (by unfold maxLen; omega) (by omega) (by simp; omega) ⟨hp, k, none⟩ v (by exact hc1 _) (by exact hf1 _) HNe.out ?_; intro A' c' w1 hap hc2 hf2; have hk1 := Lib.hid (keeps_push (w := w) (o := .cells #[.int .i64 x] 3) hap.grown rfl rfl rfl rfl); have HO1 := Lib.hid hap.row; have HP1 := Lib.hid (show ∀ b, (Value.slice A' (n + 1) c').ownBlock = some b → v.ownBlock = some b ∨ w.heap.size ≤ b from fun b hb => by rcases hap.place b hb with h | h; exact .inl h; exact .inr (by subst h; exact alloc_le _ _)); clear hap))
  all_goals (go_end0; exact ⟨rfl, _, w1, HO1.out, hk1.out, HP1.out, rfl⟩)
end Go.Proofs.YtcdlfgggmigcnaaDoor.Nums
