/- The contract of copyistkit.Own at integers. -/
import Derived.Test.YtagcfgonajogcaaDoorRefBytes
namespace Go.Proofs.YtagcfgonajogcaaDoor.RefStrs
open Go.RowKit Go.Shelf Go.Lib
open Go.Proofs.YtagcfgonajogcaaDoor.Utf Go.Proofs.YtagcfgonajogcaaDoor.Strs Go.Proofs.YtagcfgonajogcaaDoor.Cuts Go.Proofs.YtagcfgonajogcaaDoor.RefChars Go.Proofs.YtagcfgonajogcaaDoor.Chars Go.Proofs.YtagcfgonajogcaaDoor.Lst Go.Proofs.YtagcfgonajogcaaDoor.LawBack

theorem none_reads (w : World) (A : Option Addr) : IntSl w (.slice A 0 0) [] := ⟨A, 0, rfl, Nat.le_refl _, fun h => absurd h (by simp)⟩
set_option maxHeartbeats 1000000 in
theorem own_nil (A : Option Addr) (cap : Nat) (w : World) :
    Calls Tryd.prog 25 #[.slice A 0 cap] w fun e w' => (∃ v, e = .returned v ∧ IntSl w' v []) ∧ Below w.heap.size w w' := by
  cases A
  · go_enter Tryd.func25, Tryd.ntmps25
    go_wp2_with (fail)
    go_ret
    exact ⟨⟨_, rfl, none_reads _ _⟩, (Below.refl w.heap.size w).alloc (Nat.le_refl _) _⟩
  · go_enter Tryd.func25, Tryd.ntmps25
    go_wp2_with (fail)
    go_ret
    exact ⟨⟨_, rfl, none_reads _ _⟩, (Below.refl w.heap.size w).alloc (Nat.le_refl _) _⟩
theorem own_empty (w : World) : (w.alloc (.cells #[] 3)).ownsRow w.heap.size 3 1 (.slice (some ⟨w.heap.size, 0, none⟩) 0 0) 0 [] :=
  ⟨by simp, .inr ⟨_, 0, #[], rfl, Nat.le_refl _, heap_alloc_new w _, Nat.le_refl _, Nat.zero_le _, rfl, rfl⟩⟩

set_option maxHeartbeats 1000000 in
theorem own_some (g off n cap : Nat) (l : List Int) (w : World) (hn : l.length = n) (h0 : 0 < n) (hm : n ≤ 65536) (hr : ∀ j, j < n → w.cell? ⟨g, off + j, none⟩ = some (.int .i64 (l.getD j 0))) :
    Calls Tryd.prog 25 #[.slice (some ⟨g, off, none⟩) n cap] w fun e w' => (∃ v, e = .returned v ∧ IntSl w' v l) ∧ Below w.heap.size w w' := by
  obtain ⟨i0, hi, hz0, hz1, hz2⟩ := info_parts int_info
  have HI := Lib.hid hi
  have HZ0 := Lib.hid hz0
  have HZ1 := Lib.hid hz1
  have HZ2 := Lib.hid hz2
  have HR := Lib.hid hr
  have HN := Lib.hid hn
  have he := own_empty w
  clear hi hz0 hz1 hz2 hr hn
  go_enter Tryd.func25, Tryd.ntmps25
  go_wp2_with (at_builtin; refine wpList_append_own _ rfl (.tmp 3) (.tmp 4) 27 rfl w.heap.size 3 i0 (.int .i64 0) 1 8 Tryd.underlying27 HI.out HZ0.out HZ1.out HZ2.out rfl (by decide) _ _ _ rfl he ⟨g, off, none⟩ n cap (l.map (Value.int .i64)) rfl ?c1 ?c2 ?c3 ?c4 ?c5 ?c6 ?_)
  case c1 => rw [List.length_map, HN.out]; omega
  case c2 =>
    intro j u hj
    have hjl : j < n := by
      have := (List.getElem?_eq_some_iff.1 hj).1
      rw [List.length_map, HN.out] at this
      exact this
    have h1 := cell_more (HR.out j hjl) (.cells #[] 3)
    have hl : j < l.length := by rw [HN.out]; exact hjl
    rw [show ((⟨g, off, none⟩ : Addr).add j) = ⟨g, off + j, none⟩ from by simp [Addr.add], h1, ← hj]
    simp [List.getD, List.getElem?_eq_getElem hl]
  case c3 =>
    intro u hu
    obtain ⟨x, _, rfl⟩ := List.mem_map.1 hu
    rfl
  case c4 => unfold maxLen; omega
  case c5 => omega
  case c6 => simp
  intro v' w5 hown5 hgr5 _
  have hb5 : Below w.heap.size w w5 := ((Below.refl w.heap.size w).alloc (Nat.le_refl _) _).grown hgr5 (by simp) (fun k hk => (he.lt k hk).1)
  have HOw := Lib.hid (IntSl.of_own hown5)
  clear hown5 hgr5 he
  go_wp2
  go_ret
  exact ⟨⟨_, rfl, HOw.out⟩, hb5⟩

theorem own_any (v : Value) (l : List Int) (w : World) (h : IntSl w v l) (hm : l.length ≤ 65536) :
    Calls Tryd.prog 25 #[v] w fun e w' => (∃ v, e = .returned v ∧ IntSl w' v l) ∧ Below w.heap.size w w' := by
  obtain ⟨A, cap, rfl, hc, hr⟩ := h
  by_cases h0 : 0 < l.length
  · obtain ⟨g, off, rfl, hcell⟩ := hr h0
    exact own_some g off l.length cap l w rfl h0 hm hcell
  · have hl : l = [] := List.eq_nil_of_length_eq_zero (by omega)
    subst hl
    exact own_nil A cap w
end Go.Proofs.YtagcfgonajogcaaDoor.RefStrs
