/- RunesJoins: the walk of the law. -/
import Derived.Test.YtagcfgonajogcaaDoorSame
import Derived.Test.YtagcfgonajogcaaDoorLives
import Derived.Test.YtagcfgonajogcaaDoorUtf2
namespace Go.Proofs.YtagcfgonajogcaaDoor.LawJoins
open Go.RowKit Go.Shelf Go.Lib
open Go.Proofs.YtagcfgonajogcaaDoor.Utf Go.Proofs.YtagcfgonajogcaaDoor.Strs Go.Proofs.YtagcfgonajogcaaDoor.Lst Go.Proofs.YtagcfgonajogcaaDoor.Laws

set_option maxHeartbeats 1000000 in
theorem long_s (s t : ByteArray) (w : World) (hT : Tabs w) (hs : s.size ≤ maxLen) (h : 2000 < s.size) :
    Calls Tryd.prog 8 #[.string s, .string t] w fun e w' => e = .returned (.bool true) ∧ Below w.heap.size w w' := by
  unfold maxLen at hs
  have HL := Lib.hid (lives_any w hT)
  clear hT
  have hz : (2000 : Int) < s.size := by omega
  go_enter Tryd.func8, Tryd.ntmps8
  go_wp2_with (go_at_call 10; refine HL.out.mono ?_; rintro e w' ⟨rfl, hb⟩)
  go_ret
  exact ⟨rfl, hb⟩
set_option maxHeartbeats 1000000 in
theorem long_t (s t : ByteArray) (w : World) (hT : Tabs w) (hs : s.size ≤ 2000) (ht : t.size ≤ maxLen) (h : 2000 < t.size) :
    Calls Tryd.prog 8 #[.string s, .string t] w fun e w' => e = .returned (.bool true) ∧ Below w.heap.size w w' := by
  unfold maxLen at ht
  have HL := Lib.hid (lives_any w hT)
  clear hT
  have hz : ¬ (2000 : Int) < s.size := by omega
  have hz2 : (2000 : Int) < t.size := by omega
  go_enter Tryd.func8, Tryd.ntmps8
  go_wp2_with (go_at_call 10; refine HL.out.mono ?_; rintro e w' ⟨rfl, hb⟩)
  go_ret
  exact ⟨rfl, hb⟩

theorem join_list (s t : ByteArray) : (s ++ t).data.toList = s.data.toList ++ t.data.toList := by simp

/-- What List leaves of a string: an error number, and a value of which nothing is said. -/
def Leaves (w : World) (s : ByteArray) (n : Int) : Prop := ∀ W, Below w.heap.size w W → Calls Tryd.prog 13 #[.string s] W fun e w' => (∃ v, e = .returned (.tuple #[v, .int .i64 n])) ∧ Below w.heap.size w w'
theorem leaves_no (w : World) (s : ByteArray) (hT : Tabs w) (hs : s.size < 1000000) (hv : validD s.data.toList = false) : Leaves w s 5 :=
  fun W hb => (list_no s W (by omega) (hT.below hb) hv).mono fun _ _ ⟨he, hb'⟩ => ⟨⟨_, he⟩, hb.trans (hb'.mono hb.size)⟩
theorem leaves_yes (w : World) (s : ByteArray) (hT : Tabs w) (hs : s.size < 1000000) (hv : validD s.data.toList = true) : Leaves w s 0 :=
  fun W hb => (list_yes s W hs (hT.below hb) hv).mono fun _ _ ⟨_, _, _, he, _, _, hb'⟩ => ⟨⟨_, he⟩, hb.trans (hb'.mono hb.size)⟩
theorem Leaves.out {w : World} {s : ByteArray} {n : Int} (h : Leaves w s n) (W : World) (hb : Below w.heap.size w W) : Calls Tryd.prog 13 #[.string s] W fun e w' => (∃ v, e = .returned (.tuple #[v, .int .i64 n])) ∧ Below w.heap.size w w' := h W hb

/-- The first string is not valid: the walk, for the error numbers of the second one and of both. -/
theorem walk_bad (s t : ByteArray) (w : World) (hs : s.size ≤ 2000) (ht : t.size ≤ 2000) (ef eg : Int) (hc : (ef = 5) ∨ (ef = 0 ∧ eg = 5))
    (HL : Hid (Calls Tryd.prog 10 #[] w fun e w' => e = .returned (.bool true) ∧ Below w.heap.size w w')) (HS : Leaves w s 5) (HT : Leaves w t ef) (HST : Leaves w (s ++ t) eg) :
    Calls Tryd.prog 8 #[.string s, .string t] w fun e w' => e = .returned (.bool true) ∧ Below w.heap.size w w' := by
  have hz : ¬ (2000 : Int) < s.size := by omega
  have hz2 : ¬ (2000 : Int) < t.size := by omega
  rcases hc with rfl | ⟨rfl, rfl⟩
  all_goals
    go_enter Tryd.func8, Tryd.ntmps8
    go_wp2_with (fail)
    refine HL.out.mono ?_
    rintro e w1 ⟨rfl, hb1⟩
    go_wp2_with (fail)
    refine (HS.out _ hb1).mono ?_
    rintro e w2 ⟨⟨va, rfl⟩, hb2⟩
    go_wp2_with (fail)
    refine (HT.out _ hb2).mono ?_
    rintro e w3 ⟨⟨vb, rfl⟩, hb3⟩
    go_wp2_with (fail)
    refine (HST.out _ hb3).mono ?_
    rintro e w4 ⟨⟨vc, rfl⟩, hb4⟩
    go_wp2_with (fail)
    go_ret
    exact ⟨rfl, hb4⟩

theorem bad_s (s t : ByteArray) (w : World) (hT : Tabs w) (hs : s.size ≤ 2000) (ht : t.size ≤ 2000) (hvs : validD s.data.toList = false) :
    Calls Tryd.prog 8 #[.string s, .string t] w fun e w' => e = .returned (.bool true) ∧ Below w.heap.size w w' := by
  have hst : (s ++ t).size < 1000000 := by rw [ByteArray.size_append]; omega
  have hl := join_list s t
  cases hvt : validD t.data.toList
  · cases hvst : validD (s ++ t).data.toList
    · exact walk_bad s t w hs ht 5 5 (.inl rfl) (lives_any w hT) (leaves_no w s hT (by omega) hvs) (leaves_no w t hT (by omega) hvt) (leaves_no w _ hT hst hvst)
    · exact walk_bad s t w hs ht 5 0 (.inl rfl) (lives_any w hT) (leaves_no w s hT (by omega) hvs) (leaves_no w t hT (by omega) hvt) (leaves_yes w _ hT hst hvst)
  · have hvst : validD (s ++ t).data.toList = false := by
      cases h : validD (s ++ t).data.toList
      · rfl
      · rw [hl] at h
        rw [valid_left _ _ h hvt] at hvs
        cases hvs
    exact walk_bad s t w hs ht 0 5 (.inr ⟨rfl, rfl⟩) (lives_any w hT) (leaves_no w s hT (by omega) hvs) (leaves_yes w t hT (by omega) hvt) (leaves_no w _ hT hst hvst)

/-- The second string alone is not valid. -/
theorem bad_t (s t : ByteArray) (w : World) (hs : s.size ≤ 2000) (ht : t.size ≤ 2000)
    (HL : Hid (Calls Tryd.prog 10 #[] w fun e w' => e = .returned (.bool true) ∧ Below w.heap.size w w')) (HS : Leaves w s 0) (HT : Leaves w t 5) (HST : Leaves w (s ++ t) 5) :
    Calls Tryd.prog 8 #[.string s, .string t] w fun e w' => e = .returned (.bool true) ∧ Below w.heap.size w w' := by
  have hz : ¬ (2000 : Int) < s.size := by omega
  have hz2 : ¬ (2000 : Int) < t.size := by omega
  go_enter Tryd.func8, Tryd.ntmps8
  go_wp2_with (fail)
  refine HL.out.mono ?_
  rintro e w1 ⟨rfl, hb1⟩
  go_wp2_with (fail)
  refine (HS.out _ hb1).mono ?_
  rintro e w2 ⟨⟨va, rfl⟩, hb2⟩
  go_wp2_with (fail)
  refine (HT.out _ hb2).mono ?_
  rintro e w3 ⟨⟨vb, rfl⟩, hb3⟩
  go_wp2_with (fail)
  refine (HST.out _ hb3).mono ?_
  rintro e w4 ⟨⟨vc, rfl⟩, hb4⟩
  go_wp2_with (fail)
  go_ret
  exact ⟨rfl, hb4⟩

set_option maxHeartbeats 1000000 in
theorem good (s t : ByteArray) (w : World) (hT : Tabs w) (hs : s.size ≤ 2000) (ht : t.size ≤ 2000) (hvs : validD s.data.toList = true) (hvt : validD t.data.toList = true) :
    Calls Tryd.prog 8 #[.string s, .string t] w fun e w' => e = .returned (.bool true) ∧ Below w.heap.size w w' := by
  have HL := Lib.hid (lives_any w hT)
  have hz : ¬ (2000 : Int) < s.size := by omega
  have hz2 : ¬ (2000 : Int) < t.size := by omega
  have hst : (s ++ t).size < 1000000 := by rw [ByteArray.size_append]; omega
  have hl := join_list s t
  have hvst : validD (s ++ t).data.toList = true := by rw [hl, valid_join _ _ hvs]; exact hvt
  have hru : runes (s ++ t).data.toList = runes s.data.toList ++ runes t.data.toList := by rw [hl]; exact runes_join _ _ hvs
  have HS := Lib.hid (fun W hb => list_yes s W (by omega) (hT.below hb) hvs)
  have HT := Lib.hid (fun W hb => list_yes t W (by omega) (hT.below hb) hvt)
  have HST := Lib.hid (fun W hb => list_yes (s ++ t) W hst (hT.below hb) hvst)
  have la : (runes s.data.toList).length ≤ 2000 := by
    have h1 := runes_length s.data.toList
    have h2 : s.data.toList.length = s.size := by simp
    omega
  have lb : (runes t.data.toList).length ≤ 2000 := by
    have h1 := runes_length t.data.toList
    have h2 : t.data.toList.length = t.size := by simp
    omega
  unfold Lists at HS HT HST
  rw [hru] at HST
  clear hT hl hvst hru hvs hvt hst
  generalize runes s.data.toList = Ra at *
  generalize runes t.data.toList = Rb at *
  obtain ⟨i0, hi, hz0, hz1, hz3⟩ := info_parts int_info
  have HI := Lib.hid hi
  have HZ0 := Lib.hid hz0
  have HZ1 := Lib.hid hz1
  have HZ2 := Lib.hid hz3
  clear hi hz0 hz1 hz3
  go_enter Tryd.func8, Tryd.ntmps8
  go_wp2_with (fail)
  refine HL.out.mono ?_
  rintro e w1 ⟨rfl, hb1⟩
  clear HL
  go_wp2_with (fail)
  refine (HS.out w1 hb1).mono ?_
  rintro e w2 ⟨ga, ca, _, rfl, rfl, oa, hb2⟩
  clear HS
  go_wp2_with (fail)
  refine (HT.out w2 (hb1.trans (hb2.mono hb1.size))).mono ?_
  rintro e w3 ⟨gb, cb, _, rfl, rfl, ob, hb3⟩
  clear HT
  go_wp2_with (fail)
  have hb03 := (hb1.trans (hb2.mono hb1.size)).trans (hb3.mono (hb1.trans (hb2.mono hb1.size)).size)
  refine (HST.out w3 hb03).mono ?_
  rintro e w4 ⟨gc, cc, nc, rfl, hnc, oc, hb4⟩
  clear hnc
  clear HST
  have hb04 := hb03.trans (hb4.mono hb03.size)
  have oa4 := owns_below (owns_below oa hb3) hb4
  have ob4 := owns_below ob hb4
  have hgc : gc ≠ ga := by
    have h1 := (oa.lt ga rfl).2
    have h2 := (oc.lt gc rfl).1
    have := hb3.size
    omega
  have hbc : ∀ j u, (Rb.map (Value.int .i64))[j]? = some u → w4.cell? ((⟨gb, 0, none⟩ : Addr).add j) = some u := ob4.cells rfl
  have Hbc := Lib.hid hbc
  have Hgc := Lib.hid hgc
  have hsz4 := hb04.size
  have hsz1 := hb1.size
  have hsz3 := hb3.size
  have hsz2 := hb2.size
  have hsz44 := hb4.size
  clear oa ob ob4 hb1 hb2 hb3 hb4 hb03 hbc hgc
  go_wp2_with (at_builtin; refine wpList_append_at (by simp [Region.wanted, yielded]) (.tmp 48) (.tmp 49) 27 rfl w1.heap.size 3 i0 (.int .i64 0) 1 8 Tryd.underlying27 HI.out HZ0.out HZ1.out HZ2.out rfl (by decide) _ _ _ rfl oa4 ⟨gb, 0, none⟩ Rb.length cb (Rb.map (Value.int .i64)) rfl ?c1 ?c2 ?c3 ?c4 ?c5 ?c6 ?_)
  case c1 => simp
  case c2 => exact Hbc.out
  case c3 => intro u hu; simp at hu; obtain ⟨x, _, rfl⟩ := hu; rfl
  case c4 => unfold maxLen; omega
  case c5 => omega
  case c6 => omega
  intro v5 w5 own5 hgr5
  have hb5 : Below w.heap.size w w5 := hb04.grown hgr5 hsz4 (fun k hk => by
    have := (oa4.lt k hk).1
    omega)
  have own5' : w5.ownsRow w1.heap.size 3 1 v5 (Ra.length + Rb.length) ((Ra ++ Rb).map (Value.int .i64)) := by rw [List.map_append]; exact own5
  have oc5 := oc.kept hgr5 (.inr (by simp only [Value.ownBlock, ne_eq, Option.some.injEq]; exact Hgc.out))
  have hsame := same_any _ v5 (Ra ++ Rb) (Ra ++ Rb) w5 (IntSl.of_own oc5) (IntSl.of_own own5') (by simp; omega)
  rw [beq_self_eq_true] at hsame
  have HSame := Lib.hid hsame
  clear hsame own5 own5' oc5 hgr5 oa4 oc Hbc Hgc
  go_wp2_with (fail)
  refine HSame.out.mono ?_
  rintro e w6 ⟨rfl, q, rfl⟩
  go_wp2_with (fail)
  go_ret
  exact ⟨rfl, below_drewNv hb5 q⟩

theorem walk (s t : ByteArray) (w : World) (hs : s.size ≤ maxLen) (ht : t.size ≤ maxLen) (hT : Tabs w) :
    Calls Tryd.prog 8 #[.string s, .string t] w fun e w' => e = .returned (.bool true) ∧ Below w.heap.size w w' := by
  by_cases h1 : 2000 < s.size
  · exact long_s s t w hT hs h1
  · by_cases h2 : 2000 < t.size
    · exact long_t s t w hT (by omega) ht h2
    · cases hvs : validD s.data.toList
      · exact bad_s s t w hT (by omega) (by omega) hvs
      · cases hvt : validD t.data.toList
        · have hst : (s ++ t).size < 1000000 := by rw [ByteArray.size_append]; omega
          have hvst : validD (s ++ t).data.toList = false := by rw [join_list, valid_join _ _ hvs]; exact hvt
          exact bad_t s t w (by omega) (by omega) (lives_any w hT) (leaves_yes w s hT (by omega) hvs) (leaves_no w t hT (by omega) hvt) (leaves_no w _ hT hst hvst)
        · exact good s t w hT (by omega) (by omega) hvs hvt
end Go.Proofs.YtagcfgonajogcaaDoor.LawJoins
