/- The contracts of maps.Clone at marks and of slices.Clone at bindings. -/
import Derived.Test.YtkbdonecbepfnaaVsBind
import Derived.Test.YtkbdonecbepfnaaVsShelf2
import Derived.Lib.SliceRun
namespace Go.Proofs.Ytkbdonecbepfnaa.Vs
open Go.RowKit Go.Maps Go.Lib Go.Shelf
open Go.Proofs.Ytkbdonecbepfnaa.Own
set_option maxRecDepth 100000

theorem cloneM_any {w : World} {b : Nat} {F : Int → Option Value} (h : MapOf w b F) :
    Calls Try.prog 36 #[.map (some b)] w fun e w' => e = .returned (.map (some w.heap.size)) ∧ MapOf w' w.heap.size F ∧ Below w.heap.size w w' ∧ w'.heap.size = w.heap.size + 1 := by
  obtain ⟨D, ks, ho, hr⟩ := h
  have hlt := ho.lt
  obtain ⟨es, clock, hb, Ft, hs, hD⟩ := ho
  refine (AnyW.maps_Clone Try.cloneM b es clock w hb).mono ?_
  rintro e w' ⟨he, rfl⟩
  exact ⟨he, ⟨D, ks, ⟨es, clock, heap_alloc_new w _, Ft, hs, hD⟩, hr⟩, (Below.refl _ w).alloc (Nat.le_refl _) _, by simp⟩

theorem cloneB_empty (w : World) : (w.alloc (.cells #[] 65)).ownsRow w.heap.size 65 4 (.slice (some ⟨w.heap.size, 0, none⟩) 0 0) 0 [] :=
  ⟨by simp, .inr ⟨_, 0, #[], rfl, Nat.le_refl _, heap_alloc_new w _, Nat.le_refl _, Nat.zero_le _, rfl, rfl⟩⟩
set_option maxHeartbeats 1000000 in
theorem cloneB_any {w : World} {base : Nat} {v : Value} {n : Nat} {xs : List Value} (h : w.ownsRow base 65 4 v n xs) (h1 : ∀ u ∈ xs, u.oneCell' = true) (hm : n ≤ 1048576) :
    Calls Try.prog 37 #[v] w fun e w' => ∃ v', e = .returned v' ∧ w'.ownsRow w.heap.size 65 4 v' n xs ∧ Below w.heap.size w w' := by
  have qT : ∀ (w : World) (a : Option Addr) (n c n' c' : Nat), (binOp .eql 54 (.slice a n c) (.slice none n' c')).run Try.prog w = .ok (.bool a.isNone) w := fun w a n c n' c' => Lib.run_eql_slice_nil w _ _ a n c n' c' Try.underlying54
  have hl := h.1
  rcases h.2 with ⟨rfl, rfl⟩ | ⟨g, cap, cur, rfl, _, hg, hc, hcm, hs, ht⟩
  · have hx : xs = [] := List.eq_nil_of_length_eq_zero (by rw [hl])
    subst hx
    go_enter Try.func37, Try.ntmps37
    go_wp2_with (fail)
    go_ret
    exact ⟨_, rfl, ⟨by simp, .inl ⟨rfl, rfl⟩⟩, Below.refl _ _⟩
  · obtain ⟨i0, hi, hz0, hz1, hz2⟩ := info_parts bind_info
    have HI := Lib.hid hi
    have HZ0 := Lib.hid hz0
    have HZ1 := Lib.hid hz1
    have HZ2 := Lib.hid hz2
    have HR := Lib.hid (Row.of_owns h)
    have HN := Lib.hid hl
    have H1 := Lib.hid h1
    have he := cloneB_empty w
    clear hi hz0 hz1 hz2 h h1 hl hg hc hcm hs ht
    go_enter Try.func37, Try.ntmps37
    go_wp2_with (at_builtin; refine wpList_append_own _ rfl (.tmp 5) (.tmp 6) 54 rfl w.heap.size 65 i0 (.agg #[.int .i64 0, .int .i64 0, .bool false, .nilFunc]) 4 32 Try.underlying54 HI.out HZ0.out HZ1.out HZ2.out rfl (by decide) _ _ _ rfl he ⟨g, 0, none⟩ n cap xs rfl ?c1 ?c2 ?c3 ?c4 ?c5 ?c6 ?_)
    case c1 => exact HN.out
    case c2 =>
      intro j u hj
      have h1 := more (HR.out.cell j u hj) (.cells #[] 65)
      rw [show ((⟨g, 0, none⟩ : Addr).add j) = ⟨g, j, none⟩ from by by_cases e : j = 0 <;> simp [Addr.add, e]]
      exact h1
    case c3 => exact H1.out
    case c4 => unfold maxLen; omega
    case c5 => omega
    case c6 => simp
    intro v' w5 hown5 hgr5 _
    have hb5 : Below w.heap.size w w5 := ((Below.refl w.heap.size w).alloc (Nat.le_refl _) _).grown hgr5 (by simp) (fun k hk => (he.lt k hk).1)
    have HOw := Lib.hid hown5
    clear hown5 hgr5 he
    go_wp2
    go_ret
    exact ⟨_, rfl, by simpa using HOw.out, hb5⟩
end Go.Proofs.Ytkbdonecbepfnaa.Vs
