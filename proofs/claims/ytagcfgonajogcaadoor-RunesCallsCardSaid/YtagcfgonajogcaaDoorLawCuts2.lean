/- RunesCuts: the walk of the law, put together. -/
import Derived.Test.YtagcfgonajogcaaDoorLawCuts
namespace Go.Proofs.YtagcfgonajogcaaDoor.LawCuts2
open Go.RowKit Go.Shelf Go.Lib
open Go.Proofs.YtagcfgonajogcaaDoor.Utf Go.Proofs.YtagcfgonajogcaaDoor.Strs Go.Proofs.YtagcfgonajogcaaDoor.Cuts Go.Proofs.YtagcfgonajogcaaDoor.Give Go.Proofs.YtagcfgonajogcaaDoor.Pick Go.Proofs.YtagcfgonajogcaaDoor.Laws Go.Proofs.YtagcfgonajogcaaDoor.LawCuts

/-- A contract that asks for the tables holds behind every world that has only grown. -/
theorem gives_tab {W : World} {f : FuncId} {a : Array Value} {v : Value} (hT : Tabs W) (h : ∀ w, Tabs w → Calls Tryd.prog f a w fun e w' => e = .returned v ∧ Below w.heap.size w w') : Gives W f a v :=
  fun w hb => (h w (hT.below hb)).mono fun _ _ ⟨he, hb'⟩ => ⟨he, hb.trans (hb'.mono hb.size)⟩

theorem cut_gives (s : ByteArray) (i j : Nat) (w : World) (hs : s.size < 1000000) (hT : Tabs w) (hv : validD s.data.toList = true) (hij : i ≤ j) (hj : j ≤ (runes s.data.toList).length) :
    Gives w 11 #[.string s, .int .i64 i, .int .i64 j] (.tuple #[.string (strOf (enc (((runes s.data.toList).drop i).take (j - i)))), .int .i64 0]) :=
  gives_tab hT fun W hTW => (cut_yes s i j W hs hTW hv hij hj).mono fun _ _ ⟨t, he, ht, hb⟩ => ⟨by rw [he, strOf_eq ht], hb⟩

theorem part_valid (R : List Int) (hC : ∀ c ∈ R, isC c) (i n : Nat) : ∀ c ∈ (R.drop i).take n, isC c := fun c hc => hC c (List.mem_of_mem_drop (List.mem_of_mem_take hc))
theorem len_part (R : List Int) (hC : ∀ c ∈ R, isC c) : lenL (strOf (enc R)).data.toList = R.length := by
  rw [strOf_list]
  simp [lenL, valid_enc_all R hC, runes_enc_all R hC]
theorem at_part (R : List Int) (hC : ∀ c ∈ R, isC c) (i : Int) : atL (strOf (enc R)).data.toList i = nthL R i := by
  rw [strOf_list]
  simp [atL, valid_enc_all R hC, runes_enc_all R hC]
theorem nthL_in (R : List Int) (k : Nat) (h : k < R.length) : nthL R (k : Int) = (R.getD k 0, true) := by simp [nthL, List.getElem?_eq_getElem h]
theorem nthL_out (R : List Int) (i : Int) (h : i < 0 ∨ (R.length : Int) ≤ i) : nthL R i = (0, false) := by
  unfold nthL
  by_cases h0 : 0 ≤ i
  · rw [if_pos h0, List.getElem?_eq_none (by omega)]
  · rw [if_neg h0]

theorem enc_three (R : List Int) (a b : Nat) (hab : a ≤ b) : enc ((R.drop 0).take (a - 0)) ++ enc ((R.drop a).take (b - a)) ++ enc ((R.drop b).take (R.length - b)) = enc R := by
  rw [← enc_append, ← enc_append]
  congr 1
  have h1 : (R.drop b).take (R.length - b) = R.drop b := List.take_of_length_le (by rw [List.length_drop]; omega)
  have h2 : R.drop b = (R.drop a).drop (b - a) := by rw [List.drop_drop]; congr 1; omega
  rw [h1, h2, List.drop_zero, Nat.sub_zero, List.append_assoc, List.take_append_drop, List.take_append_drop]

theorem good_walk (s : ByteArray) (i j k : Int) (w : World) (hs : s.size ≤ 2000) (hT : Tabs w) (hv : validD s.data.toList = true) :
    Calls Tryd.prog 7 #[.string s, .int .i64 i, .int .i64 j, .int .i64 k] w fun e w' => e = .returned (.bool true) ∧ Below w.heap.size w w' := by
  have hC := isC_runes _ hv
  have hR : enc (runes s.data.toList) = s.data.toList := enc_runes _ hv
  have hn : (runes s.data.toList).length ≤ 2000 := by
    have h1 := runes_length s.data.toList
    rw [size_list] at h1
    omega
  have hlen : lenL s.data.toList = (runes s.data.toList).length := by simp [lenL, hv]
  have hat : ∀ q, atL s.data.toList q = nthL (runes s.data.toList) q := fun q => by simp [atL, hv]
  have hcut := fun (p q : Nat) => cut_gives s p q w (by omega) hT hv
  generalize runes s.data.toList = R at *
  have p1 := pick_range i ((R.length : Int) + 1) (by omega)
  have p2 := pick_range j ((R.length : Int) + 1) (by omega)
  have p3 := pick_range k ((R.length : Int) + 1) (by omega)
  obtain ⟨pa, hpa⟩ : ∃ pa : Nat, pickZ i ((R.length : Int) + 1) = pa := ⟨_, (Int.toNat_of_nonneg p1.1).symm⟩
  obtain ⟨pb, hpb⟩ : ∃ pb : Nat, pickZ j ((R.length : Int) + 1) = pb := ⟨_, (Int.toNat_of_nonneg p2.1).symm⟩
  obtain ⟨m, hm⟩ : ∃ m : Nat, pickZ k ((R.length : Int) + 1) = m := ⟨_, (Int.toNat_of_nonneg p3.1).symm⟩
  have Pi : Gives w 37 #[.int .i64 i, .int .i64 ((R.length : Int) + 1)] (.int .i64 pa) := by rw [← hpa]; exact gives_same fun W => pick_any i _ W (by omega) (by omega)
  have Pj : Gives w 37 #[.int .i64 j, .int .i64 ((R.length : Int) + 1)] (.int .i64 pb) := by rw [← hpb]; exact gives_same fun W => pick_any j _ W (by omega) (by omega)
  have Pk : Gives w 37 #[.int .i64 k, .int .i64 ((R.length : Int) + 1)] (.int .i64 m) := by rw [← hm]; exact gives_same fun W => pick_any k _ W (by omega) (by omega)
  rw [hpa] at p1
  rw [hpb] at p2
  rw [hm] at p3
  obtain ⟨a, b, hsw, hab, hbn⟩ : ∃ a b : Nat, ((pb < pa ∧ a = pb ∧ b = pa) ∨ (pa ≤ pb ∧ a = pa ∧ b = pb)) ∧ a ≤ b ∧ b ≤ R.length := by
    by_cases h : pb < pa
    · exact ⟨pb, pa, .inl ⟨h, rfl, rfl⟩, by omega, by omega⟩
    · exact ⟨pa, pb, .inr ⟨by omega, rfl, rfl⟩, by omega, by omega⟩
  have e3 := enc_three R a b hab
  have hY := part_valid R hC a (b - a)
  have hX := part_valid R hC 0 (a - 0)
  have hZ := part_valid R hC b (R.length - b)
  have lY : ((R.drop a).take (b - a)).length = b - a := by rw [List.length_take, List.length_drop]; omega
  have lX : ((R.drop 0).take (a - 0)).length = a := by rw [List.length_take, List.length_drop]; omega
  have lZ : ((R.drop b).take (R.length - b)).length = R.length - b := by rw [List.length_take, List.length_drop]; omega
  have hxyz : strOf (enc ((R.drop 0).take (a - 0))) ++ strOf (enc ((R.drop a).take (b - a))) ++ strOf (enc ((R.drop b).take (R.length - b))) = s := by
    rw [strOf_eq (s := s) hR.symm, ← e3]
    exact strOf_eq (by simp [strOf_list])
  have hsz := congrArg ByteArray.size hxyz
  rw [ByteArray.size_append, ByteArray.size_append] at hsz
  have hst := fun (l : List Int) (hl : ∀ c ∈ l, isC c) (hsl : (strOf (enc l)).size ≤ 2000) => (gives_tab hT fun W hTW => len_any (strOf (enc l)) W (by omega) hTW : Gives w 28 #[.string (strOf (enc l))] (.int .i64 (lenL (strOf (enc l)).data.toList)))
  refine good s _ _ _ i j k R.length pa pb a b m (nthL R m).1 (nthL ((R.drop a).take (b - a)) ((m : Int) - a)).1 (nthL R m).2 (nthL ((R.drop a).take (b - a)) ((m : Int) - a)).2 w hs hn hab hbn (by omega) hsw ?_ hxyz (by omega) (by omega) (by omega) (by rw [ByteArray.size_append]; omega)
    (lives_gives w hT) ?_ Pi Pj (hcut 0 a (by omega) (by omega)) (hcut a b hab hbn) (hcut b R.length hbn (Nat.le_refl _)) ?_ Pk ?_ ?_ ?_ ?_ ?_
  · by_cases h1 : m < a
    · rw [nthL_in R m (by omega), nthL_out ((R.drop a).take (b - a)) _ (.inl (by omega))]
      exact .inl ⟨h1, rfl, rfl⟩
    · by_cases h2 : m < b
      · have e : (m : Int) - a = ((m - a : Nat) : Int) := by omega
        rw [nthL_in R m (by omega), e, nthL_in ((R.drop a).take (b - a)) (m - a) (by omega)]
        refine .inr (.inl ⟨by omega, h2, rfl, rfl, ?_⟩)
        show R.getD m 0 = ((R.drop a).take (b - a)).getD (m - a) 0
        simp only [List.getD_eq_getElem?_getD, List.getElem?_take, List.getElem?_drop]
        rw [if_pos (by omega), show a + (m - a) = m by omega]
      · by_cases h3 : m < R.length
        · rw [nthL_in R m h3, nthL_out ((R.drop a).take (b - a)) _ (.inr (by omega))]
          exact .inr (.inr (.inl ⟨by omega, h3, rfl, rfl⟩))
        · rw [nthL_out R m (.inr (by omega)), nthL_out ((R.drop a).take (b - a)) _ (.inr (by omega))]
          exact .inr (.inr (.inr ⟨by omega, rfl, rfl⟩))
  · rw [← hlen]; exact gives_tab hT fun W hTW => len_any s W (by omega) hTW
  · rw [← hv]; exact gives_tab hT fun W hTW => valid_any s W (by omega) hTW
  · rw [← hat]; exact gives_tab hT fun W hTW => at_any s m W (by omega) hTW
  · rw [← at_part _ hY]; exact gives_tab hT fun W hTW => at_any _ _ W (by omega) hTW
  · have h := hst _ hX (by omega)
    rw [len_part _ hX, lX] at h
    exact h
  · have h := hst _ hY (by omega)
    rw [len_part _ hY, lY, show ((b - a : Nat) : Int) = (b : Int) - a by omega] at h
    exact h
  · have h := hst _ hZ (by omega)
    rw [len_part _ hZ, lZ, show ((R.length - b : Nat) : Int) = (R.length : Int) - b by omega] at h
    exact h

theorem pick_one (x : Int) : pickZ x 1 = 0 := by
  have h := pick_range x 1 (by omega)
  omega

theorem walk (s : ByteArray) (i j k : Int) (w : World) (_ : -9223372036854775808 ≤ i) (_ : i ≤ 9223372036854775807) (_ : -9223372036854775808 ≤ j) (_ : j ≤ 9223372036854775807) (_ : -9223372036854775808 ≤ k) (_ : k ≤ 9223372036854775807) (hs : s.size ≤ maxLen) (hT : Tabs w) :
    Calls Tryd.prog 7 #[.string s, .int .i64 i, .int .i64 j, .int .i64 k] w fun e w' => e = .returned (.bool true) ∧ Below w.heap.size w w' := by
  by_cases h : 2000 < s.size
  · exact long_s s i j k w hs h (lives_gives w hT)
  · cases hv : validD s.data.toList
    · have hl : lenL s.data.toList = 0 := by simp [lenL, hv]
      refine bad_s s i j k w (by omega) (lives_gives w hT) ?_ ?_ ?_ ?_ ?_
      · have h1 : Gives w 28 #[.string s] (.int .i64 (lenL s.data.toList)) := gives_tab hT fun W hTW => len_any s W (by omega) hTW
        rw [hl] at h1
        exact h1
      · rw [← pick_one i]; exact gives_same fun W => pick_any i 1 W (by omega) (by omega)
      · rw [← pick_one j]; exact gives_same fun W => pick_any j 1 W (by omega) (by omega)
      · exact gives_tab hT fun W hTW => cut_form s 0 0 W (by omega) hTW hv
      · rw [← hv]; exact gives_tab hT fun W hTW => valid_any s W (by omega) hTW
    · exact good_walk s i j k w (by omega) hT hv
end Go.Proofs.YtagcfgonajogcaaDoor.LawCuts2
