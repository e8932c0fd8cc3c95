/- The contracts of slices.Clone at words and bytes, and of copyistkit.Own at words. -/
import Derived.Test.YtcdlfgggmigcnaaDoorRep
import Derived.Test.YtcdlfgggmigcnaaDoorRows
import Derived.WalkSpells
import Derived.WalkLawsBesides
namespace Go.Proofs.YtcdlfgggmigcnaaDoor.Clone
open Go.RowKit
open Go.Proofs.YtcdlfgggmigcnaaDoor.Own Go.Proofs.YtcdlfgggmigcnaaDoor.Rep

/-- A slice of n elements that reads as these cells. -/
def SlR (w : World) (v : Value) (n : Nat) (xs : List Value) : Prop :=
  ∃ A cap, v = .slice A n cap ∧ n ≤ cap ∧ (0 < n → ∃ g off, A = some ⟨g, off, none⟩ ∧ ∀ j u, xs[j]? = some u → w.cell? ⟨g, off + j, none⟩ = some u)
theorem SlR.below {w w' : World} {v : Value} {n : Nat} {xs : List Value} (h : SlR w v n xs) (hb : Below w.heap.size w w') : SlR w' v n xs := by
  obtain ⟨A, cap, hv, hc, hr⟩ := h
  refine ⟨A, cap, hv, hc, fun h0 => ?_⟩
  obtain ⟨g, off, hA, hj⟩ := hr h0
  exact ⟨g, off, hA, fun j u hu => (hb.cell (World.block_lt_of_cell? _ _ (hj j u hu))).trans (hj j u hu)⟩
theorem SlR.of_own {w : World} {base : Nat} {e : TypeId} {size : Nat} {v : Value} {n : Nat} {xs : List Value} (h : w.ownsRow base e size v n xs) : SlR w v n xs := by
  have hh := h
  rcases h.2 with ⟨rfl, rfl⟩ | ⟨g, cap, cur, rfl, hb, hg, hcap, _, hcs, htake⟩
  · exact ⟨none, 0, rfl, Nat.le_refl _, fun h => absurd h (by simp)⟩
  · exact ⟨_, cap, rfl, hcap, fun _ => ⟨g, 0, rfl, fun j u hu => by rw [Nat.zero_add]; exact (Row.of_owns hh).cell j u hu⟩⟩
theorem SlAt.reads {w : World} {lab : Nat → Option Lab} {k : Lab} {v : Value} {n : Nat} {xs : List Value} (h : SlAt w lab k v n xs) : SlR w v n xs := by
  obtain ⟨A, cap, hv, hc, hr⟩ := h
  refine ⟨A, cap, hv, hc, fun h0 => ?_⟩
  obtain ⟨g, hA, _, hrow⟩ := hr h0
  exact ⟨g, 0, hA, fun j u hu => by rw [Nat.zero_add]; exact hrow.cell j u hu⟩
theorem wcells_length (l : List Hp.Wd) : (wcells l).length = l.length * 2 := by
  induction l with
  | nil => rfl
  | cons x l ih => simp only [wcells, List.length_cons]; rw [ih]; omega
theorem wcells_one (l : List Hp.Wd) : ∀ u ∈ wcells l, u.oneCell' = true := by
  induction l with
  | nil => intro u hu; cases hu
  | cons x l ih =>
    intro u hu
    simp only [wcells, List.mem_cons] at hu
    rcases hu with rfl | rfl | hu
    · rfl
    · rfl
    · exact ih u hu
theorem bcells_one (l : List Int) : ∀ u ∈ bcells l, u.oneCell' = true := by
  intro u hu
  obtain ⟨x, _, rfl⟩ := List.mem_map.1 hu
  rfl

theorem word_info : (Tryd.prog.info? 28).map (fun i => (i.zero, i.size, i.bytes)) = some (some (.agg #[.int .i64 0, .int .i64 0]), 2, 16) := by kernel_rfl
theorem byte_info : (Tryd.prog.info? 5).map (fun i => (i.zero, i.size, i.bytes)) = some (some (.int .u8 0), 1, 1) := by kernel_rfl

theorem cloneW_empty (w : World) : (w.alloc (.cells #[] 28)).ownsRow w.heap.size 28 2 (.slice (some ⟨w.heap.size, 0, none⟩) 0 0) 0 [] :=
  ⟨by simp, .inr ⟨_, 0, #[], rfl, Nat.le_refl _, heap_alloc_new w _, Nat.le_refl _, Nat.zero_le _, rfl, rfl⟩⟩
set_option maxHeartbeats 1000000 in
theorem cloneW_nil (A : Option Addr) (cap : Nat) (w : World) :
    Calls Tryd.prog 73 #[.slice A 0 cap] w fun e w' => (∃ v, e = .returned v ∧ w'.ownsRow w.heap.size 28 2 v 0 []) ∧ Below w.heap.size w w' := by
  have qT : ∀ (w : World) (a : Option Addr) (n c n' c' : Nat), (binOp .eql 36 (.slice a n c) (.slice none n' c')).run Tryd.prog w = .ok (.bool a.isNone) w := fun w a n c n' c' => Lib.run_eql_slice_nil w _ _ a n c n' c' Tryd.underlying36
  cases A
  · go_enter Tryd.func73, Tryd.ntmps73
    go_wp2_with (fail)
    go_ret
    exact ⟨⟨_, rfl, ⟨by simp, .inl ⟨rfl, rfl⟩⟩⟩, Below.refl _ _⟩
  · go_enter Tryd.func73, Tryd.ntmps73
    go_wp2_with (fail)
    go_ret
    exact ⟨⟨_, rfl, cloneW_empty w⟩, (Below.refl w.heap.size w).alloc (Nat.le_refl _) _⟩
set_option maxHeartbeats 1000000 in
theorem cloneW_some (g off n cap : Nat) (xs : List Value) (w : World) (hn : xs.length = n * 2) (h1 : ∀ u ∈ xs, u.oneCell' = true) (hm : n ≤ 1048576) (hr : ∀ j u, xs[j]? = some u → w.cell? ⟨g, off + j, none⟩ = some u) :
    Calls Tryd.prog 73 #[.slice (some ⟨g, off, none⟩) n cap] w fun e w' => (∃ v, e = .returned v ∧ w'.ownsRow w.heap.size 28 2 v n xs) ∧ Below w.heap.size w w' := by
  obtain ⟨i0, hi, hz0, hz1, hz2⟩ := info_parts word_info
  have HI := Lib.hid hi
  have HZ0 := Lib.hid hz0
  have HZ1 := Lib.hid hz1
  have HZ2 := Lib.hid hz2
  have HR := Lib.hid hr
  have HN := Lib.hid hn
  have H1 := Lib.hid h1
  have he := cloneW_empty w
  have qT : ∀ (w : World) (a : Option Addr) (n c n' c' : Nat), (binOp .eql 36 (.slice a n c) (.slice none n' c')).run Tryd.prog w = .ok (.bool a.isNone) w := fun w a n c n' c' => Lib.run_eql_slice_nil w _ _ a n c n' c' Tryd.underlying36
  clear hi hz0 hz1 hz2 hr hn h1
  go_enter Tryd.func73, Tryd.ntmps73
  go_wp2_with (at_builtin; refine wpList_append_own _ rfl (.tmp 5) (.tmp 6) 36 rfl w.heap.size 28 i0 (.agg #[.int .i64 0, .int .i64 0]) 2 16 Tryd.underlying36 HI.out HZ0.out HZ1.out HZ2.out rfl (by decide) _ _ _ rfl he ⟨g, off, none⟩ n cap xs rfl ?c1 ?c2 ?c3 ?c4 ?c5 ?c6 ?_)
  case c1 => exact HN.out
  case c2 =>
    intro j u hj
    have h1 := more (HR.out j u hj) (.cells #[] 28)
    rw [show ((⟨g, off, none⟩ : Addr).add j) = ⟨g, off + j, none⟩ from by simp [Addr.add]]
    exact h1
  case c3 => exact H1.out
  case c4 => unfold maxLen; omega
  case c5 => omega
  case c6 => simp
  intro v' w5 hown5 hgr5 _
  have hb5 : Below w.heap.size w w5 := ((Below.refl w.heap.size w).alloc (Nat.le_refl _) _).grown hgr5 (by simp) (fun k hk => (he.lt k hk).1)
  have HOw := Lib.hid hown5
  clear hown5 hgr5 he
  go_wp2
  go_ret
  exact ⟨⟨_, rfl, HOw.out⟩, hb5⟩
theorem cloneW_any (v : Value) (n : Nat) (xs : List Value) (w : World) (h : SlR w v n xs) (hn : xs.length = n * 2) (h1 : ∀ u ∈ xs, u.oneCell' = true) (hm : n ≤ 1048576) :
    Calls Tryd.prog 73 #[v] w fun e w' => (∃ v, e = .returned v ∧ w'.ownsRow w.heap.size 28 2 v n xs) ∧ Below w.heap.size w w' := by
  obtain ⟨A, cap, rfl, hc, hr⟩ := h
  by_cases h0 : 0 < n
  · obtain ⟨g, off, rfl, hcell⟩ := hr h0
    exact cloneW_some g off n cap xs w hn h1 hm hcell
  · obtain rfl : n = 0 := by omega
    obtain rfl : xs = [] := List.eq_nil_of_length_eq_zero (by omega)
    exact cloneW_nil A cap w

theorem cloneB_empty (w : World) : (w.alloc (.cells #[] 5)).ownsRow w.heap.size 5 1 (.slice (some ⟨w.heap.size, 0, none⟩) 0 0) 0 [] :=
  ⟨by simp, .inr ⟨_, 0, #[], rfl, Nat.le_refl _, heap_alloc_new w _, Nat.le_refl _, Nat.zero_le _, rfl, rfl⟩⟩
set_option maxHeartbeats 1000000 in
theorem cloneB_nil (A : Option Addr) (cap : Nat) (w : World) :
    Calls Tryd.prog 113 #[.slice A 0 cap] w fun e w' => (∃ v, e = .returned v ∧ w'.ownsRow w.heap.size 5 1 v 0 []) ∧ Below w.heap.size w w' := by
  have qT : ∀ (w : World) (a : Option Addr) (n c n' c' : Nat), (binOp .eql 50 (.slice a n c) (.slice none n' c')).run Tryd.prog w = .ok (.bool a.isNone) w := fun w a n c n' c' => Lib.run_eql_slice_nil w _ _ a n c n' c' Tryd.underlying50
  cases A
  · go_enter Tryd.func113, Tryd.ntmps113
    go_wp2_with (fail)
    go_ret
    exact ⟨⟨_, rfl, ⟨by simp, .inl ⟨rfl, rfl⟩⟩⟩, Below.refl _ _⟩
  · go_enter Tryd.func113, Tryd.ntmps113
    go_wp2_with (fail)
    go_ret
    exact ⟨⟨_, rfl, cloneB_empty w⟩, (Below.refl w.heap.size w).alloc (Nat.le_refl _) _⟩
set_option maxHeartbeats 1000000 in
theorem cloneB_some (g off n cap : Nat) (xs : List Value) (w : World) (hn : xs.length = n * 1) (h1 : ∀ u ∈ xs, u.oneCell' = true) (hm : n ≤ 1048576) (hr : ∀ j u, xs[j]? = some u → w.cell? ⟨g, off + j, none⟩ = some u) :
    Calls Tryd.prog 113 #[.slice (some ⟨g, off, none⟩) n cap] w fun e w' => (∃ v, e = .returned v ∧ w'.ownsRow w.heap.size 5 1 v n xs) ∧ Below w.heap.size w w' := by
  obtain ⟨i0, hi, hz0, hz1, hz2⟩ := info_parts byte_info
  have HI := Lib.hid hi
  have HZ0 := Lib.hid hz0
  have HZ1 := Lib.hid hz1
  have HZ2 := Lib.hid hz2
  have HR := Lib.hid hr
  have HN := Lib.hid hn
  have H1 := Lib.hid h1
  have he := cloneB_empty w
  have qT : ∀ (w : World) (a : Option Addr) (n c n' c' : Nat), (binOp .eql 50 (.slice a n c) (.slice none n' c')).run Tryd.prog w = .ok (.bool a.isNone) w := fun w a n c n' c' => Lib.run_eql_slice_nil w _ _ a n c n' c' Tryd.underlying50
  clear hi hz0 hz1 hz2 hr hn h1
  go_enter Tryd.func113, Tryd.ntmps113
  go_wp2_with (at_builtin; refine wpList_append_own _ rfl (.tmp 5) (.tmp 6) 50 rfl w.heap.size 5 i0 (.int .u8 0) 1 1 Tryd.underlying50 HI.out HZ0.out HZ1.out HZ2.out rfl (by decide) _ _ _ rfl he ⟨g, off, none⟩ n cap xs rfl ?c1 ?c2 ?c3 ?c4 ?c5 ?c6 ?_)
  case c1 => exact HN.out
  case c2 =>
    intro j u hj
    have h1 := more (HR.out j u hj) (.cells #[] 5)
    rw [show ((⟨g, off, none⟩ : Addr).add j) = ⟨g, off + j, none⟩ from by simp [Addr.add]]
    exact h1
  case c3 => exact H1.out
  case c4 => unfold maxLen; omega
  case c5 => omega
  case c6 => simp
  intro v' w5 hown5 hgr5 _
  have hb5 : Below w.heap.size w w5 := ((Below.refl w.heap.size w).alloc (Nat.le_refl _) _).grown hgr5 (by simp) (fun k hk => (he.lt k hk).1)
  have HOw := Lib.hid hown5
  clear hown5 hgr5 he
  go_wp2
  go_ret
  exact ⟨⟨_, rfl, HOw.out⟩, hb5⟩
theorem cloneB_any (v : Value) (n : Nat) (xs : List Value) (w : World) (h : SlR w v n xs) (hn : xs.length = n * 1) (h1 : ∀ u ∈ xs, u.oneCell' = true) (hm : n ≤ 1048576) :
    Calls Tryd.prog 113 #[v] w fun e w' => (∃ v, e = .returned v ∧ w'.ownsRow w.heap.size 5 1 v n xs) ∧ Below w.heap.size w w' := by
  obtain ⟨A, cap, rfl, hc, hr⟩ := h
  by_cases h0 : 0 < n
  · obtain ⟨g, off, rfl, hcell⟩ := hr h0
    exact cloneB_some g off n cap xs w hn h1 hm hcell
  · obtain rfl : n = 0 := by omega
    obtain rfl : xs = [] := List.eq_nil_of_length_eq_zero (by omega)
    exact cloneB_nil A cap w

theorem ownW_empty (w : World) : (w.alloc (.cells #[] 28)).ownsRow w.heap.size 28 2 (.slice (some ⟨w.heap.size, 0, none⟩) 0 0) 0 [] :=
  ⟨by simp, .inr ⟨_, 0, #[], rfl, Nat.le_refl _, heap_alloc_new w _, Nat.le_refl _, Nat.zero_le _, rfl, rfl⟩⟩
set_option maxHeartbeats 1000000 in
theorem ownW_nil (A : Option Addr) (cap : Nat) (w : World) :
    Calls Tryd.prog 37 #[.slice A 0 cap] w fun e w' => (∃ v, e = .returned v ∧ w'.ownsRow w.heap.size 28 2 v 0 []) ∧ Below w.heap.size w w' := by
  cases A
  · go_enter Tryd.func37, Tryd.ntmps37
    go_wp2_with (fail)
    go_ret
    exact ⟨⟨_, rfl, ownW_empty w⟩, (Below.refl w.heap.size w).alloc (Nat.le_refl _) _⟩
  · go_enter Tryd.func37, Tryd.ntmps37
    go_wp2_with (fail)
    go_ret
    exact ⟨⟨_, rfl, ownW_empty w⟩, (Below.refl w.heap.size w).alloc (Nat.le_refl _) _⟩
set_option maxHeartbeats 1000000 in
theorem ownW_some (g off n cap : Nat) (xs : List Value) (w : World) (hn : xs.length = n * 2) (h1 : ∀ u ∈ xs, u.oneCell' = true) (hm : n ≤ 1048576) (hr : ∀ j u, xs[j]? = some u → w.cell? ⟨g, off + j, none⟩ = some u) :
    Calls Tryd.prog 37 #[.slice (some ⟨g, off, none⟩) n cap] w fun e w' => (∃ v, e = .returned v ∧ w'.ownsRow w.heap.size 28 2 v n xs) ∧ Below w.heap.size w w' := by
  obtain ⟨i0, hi, hz0, hz1, hz2⟩ := info_parts word_info
  have HI := Lib.hid hi
  have HZ0 := Lib.hid hz0
  have HZ1 := Lib.hid hz1
  have HZ2 := Lib.hid hz2
  have HR := Lib.hid hr
  have HN := Lib.hid hn
  have H1 := Lib.hid h1
  have he := ownW_empty w
  clear hi hz0 hz1 hz2 hr hn h1
  go_enter Tryd.func37, Tryd.ntmps37
  go_wp2_with (at_builtin; refine wpList_append_own _ rfl (.tmp 3) (.tmp 4) 36 rfl w.heap.size 28 i0 (.agg #[.int .i64 0, .int .i64 0]) 2 16 Tryd.underlying36 HI.out HZ0.out HZ1.out HZ2.out rfl (by decide) _ _ _ rfl he ⟨g, off, none⟩ n cap xs rfl ?c1 ?c2 ?c3 ?c4 ?c5 ?c6 ?_)
  case c1 => exact HN.out
  case c2 =>
    intro j u hj
    have h1 := more (HR.out j u hj) (.cells #[] 28)
    rw [show ((⟨g, off, none⟩ : Addr).add j) = ⟨g, off + j, none⟩ from by simp [Addr.add]]
    exact h1
  case c3 => exact H1.out
  case c4 => unfold maxLen; omega
  case c5 => omega
  case c6 => simp
  intro v' w5 hown5 hgr5 _
  have hb5 : Below w.heap.size w w5 := ((Below.refl w.heap.size w).alloc (Nat.le_refl _) _).grown hgr5 (by simp) (fun k hk => (he.lt k hk).1)
  have HOw := Lib.hid hown5
  clear hown5 hgr5 he
  go_wp2
  go_ret
  exact ⟨⟨_, rfl, HOw.out⟩, hb5⟩
theorem ownW_any (v : Value) (n : Nat) (xs : List Value) (w : World) (h : SlR w v n xs) (hn : xs.length = n * 2) (h1 : ∀ u ∈ xs, u.oneCell' = true) (hm : n ≤ 1048576) :
    Calls Tryd.prog 37 #[v] w fun e w' => (∃ v, e = .returned v ∧ w'.ownsRow w.heap.size 28 2 v n xs) ∧ Below w.heap.size w w' := by
  obtain ⟨A, cap, rfl, hc, hr⟩ := h
  by_cases h0 : 0 < n
  · obtain ⟨g, off, rfl, hcell⟩ := hr h0
    exact ownW_some g off n cap xs w hn h1 hm hcell
  · obtain rfl : n = 0 := by omega
    obtain rfl : xs = [] := List.eq_nil_of_length_eq_zero (by omega)
    exact ownW_nil A cap w
end Go.Proofs.YtcdlfgggmigcnaaDoor.Clone
