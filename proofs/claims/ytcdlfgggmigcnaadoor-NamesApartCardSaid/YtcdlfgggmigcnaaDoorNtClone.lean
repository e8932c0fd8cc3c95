/- The contracts of slices.Clone at properties and at symbols. -/
import Derived.Test.YtcdlfgggmigcnaaDoorClone
import Derived.Test.YtcdlfgggmigcnaaDoorNtProp
import Derived.Test.YtcdlfgggmigcnaaDoorNtFresh
namespace Go.Proofs.YtcdlfgggmigcnaaDoor.Nt
set_option maxRecDepth 100000
open Go.RowKit
open Go.Proofs.YtcdlfgggmigcnaaDoor.Own Go.Proofs.YtcdlfgggmigcnaaDoor.Clone

theorem prop_info : (Tryd.prog.info? 98).map (fun i => (i.zero, i.size, i.bytes)) = some (some (.agg #[.int .i64 0, .int .i64 0, .int .i64 0]), 3, 24) := by kernel_rfl
theorem cloneP_empty (w : World) : (w.alloc (.cells #[] 98)).ownsRow w.heap.size 98 3 (.slice (some ⟨w.heap.size, 0, none⟩) 0 0) 0 [] :=
  ⟨by simp, .inr ⟨_, 0, #[], rfl, Nat.le_refl _, heap_alloc_new w _, Nat.le_refl _, Nat.zero_le _, rfl, rfl⟩⟩
set_option maxHeartbeats 1000000 in
theorem cloneP_nil (A : Option Addr) (cap : Nat) (w : World) :
    Calls Tryd.prog 90 #[.slice A 0 cap] w fun e w' => (∃ v, e = .returned v ∧ w'.ownsRow w.heap.size 98 3 v 0 []) ∧ Below w.heap.size w w' := by
  have qT : ∀ (w : World) (a : Option Addr) (n c n' c' : Nat), (binOp .eql 99 (.slice a n c) (.slice none n' c')).run Tryd.prog w = .ok (.bool a.isNone) w := fun w a n c n' c' => Lib.run_eql_slice_nil w _ _ a n c n' c' Tryd.underlying99
  cases A
  · go_enter Tryd.func90, Tryd.ntmps90
    go_wp2_with (fail)
    go_ret
    exact ⟨⟨_, rfl, ⟨by simp, .inl ⟨rfl, rfl⟩⟩⟩, Below.refl _ _⟩
  · go_enter Tryd.func90, Tryd.ntmps90
    go_wp2_with (fail)
    go_ret
    exact ⟨⟨_, rfl, cloneP_empty w⟩, (Below.refl w.heap.size w).alloc (Nat.le_refl _) _⟩
set_option maxHeartbeats 1000000 in
theorem cloneP_some (g off n cap : Nat) (xs : List Value) (w : World) (hn : xs.length = n * 3) (h1 : ∀ u ∈ xs, u.oneCell' = true) (hm : n ≤ 1048576) (hr : ∀ j u, xs[j]? = some u → w.cell? ⟨g, off + j, none⟩ = some u) :
    Calls Tryd.prog 90 #[.slice (some ⟨g, off, none⟩) n cap] w fun e w' => (∃ v, e = .returned v ∧ w'.ownsRow w.heap.size 98 3 v n xs) ∧ Below w.heap.size w w' := by
  obtain ⟨i0, hi, hz0, hz1, hz2⟩ := info_parts prop_info
  have HI := Lib.hid hi
  have HZ0 := Lib.hid hz0
  have HZ1 := Lib.hid hz1
  have HZ2 := Lib.hid hz2
  have HR := Lib.hid hr
  have HN := Lib.hid hn
  have H1 := Lib.hid h1
  have he := cloneP_empty w
  have qT : ∀ (w : World) (a : Option Addr) (n c n' c' : Nat), (binOp .eql 99 (.slice a n c) (.slice none n' c')).run Tryd.prog w = .ok (.bool a.isNone) w := fun w a n c n' c' => Lib.run_eql_slice_nil w _ _ a n c n' c' Tryd.underlying99
  clear hi hz0 hz1 hz2 hr hn h1
  go_enter Tryd.func90, Tryd.ntmps90
  go_wp2_with (at_builtin; refine wpList_append_own _ rfl (.tmp 5) (.tmp 6) 99 rfl w.heap.size 98 i0 (.agg #[.int .i64 0, .int .i64 0, .int .i64 0]) 3 24 Tryd.underlying99 HI.out HZ0.out HZ1.out HZ2.out rfl (by decide) _ _ _ rfl he ⟨g, off, none⟩ n cap xs rfl ?c1 ?c2 ?c3 ?c4 ?c5 ?c6 ?_)
  case c1 => exact HN.out
  case c2 =>
    intro j u hj
    have h1 := more (HR.out j u hj) (.cells #[] 98)
    rw [show ((⟨g, off, none⟩ : Addr).add j) = ⟨g, off + j, none⟩ from by simp [Addr.add]]
    exact h1
  case c3 => exact H1.out
  case c4 => unfold maxLen; omega
  case c5 => omega
  case c6 => simp
  intro v' w5 hown5 hgr5 _
  have hb5 : Below w.heap.size w w5 := ((Below.refl w.heap.size w).alloc (Nat.le_refl _) _).grown hgr5 (by simp) (fun k hk => (he.lt k hk).1)
  have HOw := Lib.hid hown5
  clear hown5 hgr5 he
  go_wp2
  go_ret
  exact ⟨⟨_, rfl, HOw.out⟩, hb5⟩
theorem cloneP_any (v : Value) (n : Nat) (xs : List Value) (w : World) (h : SlR w v n xs) (hn : xs.length = n * 3) (h1 : ∀ u ∈ xs, u.oneCell' = true) (hm : n ≤ 1048576) :
    Calls Tryd.prog 90 #[v] w fun e w' => (∃ v, e = .returned v ∧ w'.ownsRow w.heap.size 98 3 v n xs) ∧ Below w.heap.size w w' := by
  obtain ⟨A, cap, rfl, hc, hr⟩ := h
  by_cases h0 : 0 < n
  · obtain ⟨g, off, rfl, hcell⟩ := hr h0
    exact cloneP_some g off n cap xs w hn h1 hm hcell
  · obtain rfl : n = 0 := by omega
    obtain rfl : xs = [] := List.eq_nil_of_length_eq_zero (by omega)
    exact cloneP_nil A cap w

theorem cloneS_empty (w : World) : (w.alloc (.cells #[] 149)).ownsRow w.heap.size 149 5 (.slice (some ⟨w.heap.size, 0, none⟩) 0 0) 0 [] :=
  ⟨by simp, .inr ⟨_, 0, #[], rfl, Nat.le_refl _, heap_alloc_new w _, Nat.le_refl _, Nat.zero_le _, rfl, rfl⟩⟩
set_option maxHeartbeats 1000000 in
theorem cloneS_nil (A : Option Addr) (cap : Nat) (w : World) :
    Calls Tryd.prog 88 #[.slice A 0 cap] w fun e w' => (∃ v, e = .returned v ∧ w'.ownsRow w.heap.size 149 5 v 0 []) ∧ Below w.heap.size w w' := by
  have qT : ∀ (w : World) (a : Option Addr) (n c n' c' : Nat), (binOp .eql 140 (.slice a n c) (.slice none n' c')).run Tryd.prog w = .ok (.bool a.isNone) w := fun w a n c n' c' => Lib.run_eql_slice_nil w _ _ a n c n' c' Tryd.underlying140
  cases A
  · go_enter Tryd.func88, Tryd.ntmps88
    go_wp2_with (fail)
    go_ret
    exact ⟨⟨_, rfl, ⟨by simp, .inl ⟨rfl, rfl⟩⟩⟩, Below.refl _ _⟩
  · go_enter Tryd.func88, Tryd.ntmps88
    go_wp2_with (fail)
    go_ret
    exact ⟨⟨_, rfl, cloneS_empty w⟩, (Below.refl w.heap.size w).alloc (Nat.le_refl _) _⟩
set_option maxHeartbeats 1000000 in
theorem cloneS_some (g off n cap : Nat) (xs : List Value) (w : World) (hn : xs.length = n * 5) (h1 : ∀ u ∈ xs, u.oneCell' = true) (hm : n ≤ 1048576) (hr : ∀ j u, xs[j]? = some u → w.cell? ⟨g, off + j, none⟩ = some u) :
    Calls Tryd.prog 88 #[.slice (some ⟨g, off, none⟩) n cap] w fun e w' => (∃ v, e = .returned v ∧ w'.ownsRow w.heap.size 149 5 v n xs) ∧ Below w.heap.size w w' := by
  obtain ⟨i0, hi, hz0, hz1, hz2⟩ := info_parts sym_info
  have HI := Lib.hid hi
  have HZ0 := Lib.hid hz0
  have HZ1 := Lib.hid hz1
  have HZ2 := Lib.hid hz2
  have HR := Lib.hid hr
  have HN := Lib.hid hn
  have H1 := Lib.hid h1
  have he := cloneS_empty w
  have qT : ∀ (w : World) (a : Option Addr) (n c n' c' : Nat), (binOp .eql 140 (.slice a n c) (.slice none n' c')).run Tryd.prog w = .ok (.bool a.isNone) w := fun w a n c n' c' => Lib.run_eql_slice_nil w _ _ a n c n' c' Tryd.underlying140
  clear hi hz0 hz1 hz2 hr hn h1
  go_enter Tryd.func88, Tryd.ntmps88
  go_wp2_with (at_builtin; refine wpList_append_own _ rfl (.tmp 5) (.tmp 6) 140 rfl w.heap.size 149 i0 (.agg #[.string ⟨#[]⟩, .int .i64 0, .int .i64 0, .bool false, .slice none 0 0]) 5 64 Tryd.underlying140 HI.out HZ0.out HZ1.out HZ2.out rfl (by decide) _ _ _ rfl he ⟨g, off, none⟩ n cap xs rfl ?c1 ?c2 ?c3 ?c4 ?c5 ?c6 ?_)
  case c1 => exact HN.out
  case c2 =>
    intro j u hj
    have h1 := more (HR.out j u hj) (.cells #[] 149)
    rw [show ((⟨g, off, none⟩ : Addr).add j) = ⟨g, off + j, none⟩ from by simp [Addr.add]]
    exact h1
  case c3 => exact H1.out
  case c4 => unfold maxLen; omega
  case c5 => omega
  case c6 => simp
  intro v' w5 hown5 hgr5 _
  have hb5 : Below w.heap.size w w5 := ((Below.refl w.heap.size w).alloc (Nat.le_refl _) _).grown hgr5 (by simp) (fun k hk => (he.lt k hk).1)
  have HOw := Lib.hid hown5
  clear hown5 hgr5 he
  go_wp2
  go_ret
  exact ⟨⟨_, rfl, HOw.out⟩, hb5⟩
theorem cloneS_any (v : Value) (n : Nat) (xs : List Value) (w : World) (h : SlR w v n xs) (hn : xs.length = n * 5) (h1 : ∀ u ∈ xs, u.oneCell' = true) (hm : n ≤ 1048576) :
    Calls Tryd.prog 88 #[v] w fun e w' => (∃ v, e = .returned v ∧ w'.ownsRow w.heap.size 149 5 v n xs) ∧ Below w.heap.size w w' := by
  obtain ⟨A, cap, rfl, hc, hr⟩ := h
  by_cases h0 : 0 < n
  · obtain ⟨g, off, rfl, hcell⟩ := hr h0
    exact cloneS_some g off n cap xs w hn h1 hm hcell
  · obtain rfl : n = 0 := by omega
    obtain rfl : xs = [] := List.eq_nil_of_length_eq_zero (by omega)
    exact cloneS_nil A cap w
end Go.Proofs.YtcdlfgggmigcnaaDoor.Nt
