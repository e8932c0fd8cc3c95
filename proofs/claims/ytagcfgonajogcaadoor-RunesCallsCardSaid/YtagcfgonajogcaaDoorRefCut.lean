/- The contract of the reference's Cut. -/
import Derived.Test.YtagcfgonajogcaaDoorRefText
namespace Go.Proofs.YtagcfgonajogcaaDoor.RefStrs
open Go.RowKit Go.Shelf Go.Lib
open Go.Proofs.YtagcfgonajogcaaDoor.Utf Go.Proofs.YtagcfgonajogcaaDoor.Strs Go.Proofs.YtagcfgonajogcaaDoor.Cuts Go.Proofs.YtagcfgonajogcaaDoor.RefChars Go.Proofs.YtagcfgonajogcaaDoor.Chars Go.Proofs.YtagcfgonajogcaaDoor.Lst Go.Proofs.YtagcfgonajogcaaDoor.LawBack Go.Proofs.YtagcfgonajogcaaDoor.Txt

theorem ref_cut_form (s : ByteArray) (i j : Int) (w : World) (hs : s.size < 1000000) (hv : validD s.data.toList = false) :
    Calls Tryd.prog 23 #[.string s, .int .i64 i, .int .i64 j] w fun e w' => e = .returned (.tuple #[.string ⟨#[]⟩, .int .i64 5]) ∧ Below w.heap.size w w' := by
  have H := Lib.hid (ref_list_no s w hs hv)
  clear hv
  go_enter Tryd.func23, Tryd.ntmps23
  go_wp2_with (fail)
  refine H.out.mono ?_
  rintro e w1 ⟨rfl, hb⟩
  go_wp2_with (fail)
  go_ret2
  exact ⟨rfl, hb⟩

set_option maxHeartbeats 1000000 in
theorem ref_cut_range (s : ByteArray) (i j : Int) (w : World) (hs : s.size < 1000000) (hv : validD s.data.toList = true) (hr : i < 0 ∨ j < i ∨ ((runes s.data.toList).length : Int) < j) :
    Calls Tryd.prog 23 #[.string s, .int .i64 i, .int .i64 j] w fun e w' => e = .returned (.tuple #[.string ⟨#[]⟩, .int .i64 3]) ∧ Below w.heap.size w w' := by
  have H := Lib.hid (ref_list_yes s w hs hv)
  obtain ⟨R, hR⟩ : ∃ R, runes s.data.toList = R := ⟨_, rfl⟩
  rw [hR] at H hr
  clear hv hR
  obtain ⟨n, hn⟩ : ∃ n, R.length = n := ⟨_, rfl⟩
  have Hn := Lib.hid hn
  rw [hn] at hr
  clear hn
  by_cases h1 : i < 0
  · clear hr
    go_enter Tryd.func23, Tryd.ntmps23
    go_wp2_with (fail)
    refine H.out.mono ?_
    rintro e w1 ⟨⟨v, rfl, hv⟩, hb⟩
    obtain ⟨A, cap, rfl⟩ := IntSl.form hv
    rw [Hn.out]
    clear hv
    go_wp2_with (fail)
    go_ret2
    exact ⟨rfl, hb⟩
  · by_cases h2 : j < i
    · clear hr
      go_enter Tryd.func23, Tryd.ntmps23
      go_wp2_with (fail)
      refine H.out.mono ?_
      rintro e w1 ⟨⟨v, rfl, hv⟩, hb⟩
      obtain ⟨A, cap, rfl⟩ := IntSl.form hv
      rw [Hn.out]
      clear hv
      go_wp2_with (fail)
      go_ret2
      exact ⟨rfl, hb⟩
    · have h3 : (n : Int) < j := by omega
      clear hr
      go_enter Tryd.func23, Tryd.ntmps23
      go_wp2_with (fail)
      refine H.out.mono ?_
      rintro e w1 ⟨⟨v, rfl, hv⟩, hb⟩
      obtain ⟨A, cap, rfl⟩ := IntSl.form hv
      rw [Hn.out]
      clear hv
      go_wp2_with (fail)
      go_ret2
      exact ⟨rfl, hb⟩

theorem owned_rune (w : World) (c : Int) (base : Nat) (hb : base ≤ w.heap.size) : (w.alloc (.cells (runeCells c).toArray 5)).ownsRow base 5 1 (.slice (some ⟨w.heap.size, 0, none⟩) (runeCells c).length (runeCells c).length) (runeCells c).length (byteCells (encodeRune c)) := by
  have h4 := (runeCells_le c).2
  rw [byteCells_encodeRune]
  refine ⟨by simp, .inr ⟨_, _, _, rfl, hb, heap_alloc_new w _, Nat.le_refl _, by unfold maxLen; omega, by simp, ?_⟩⟩
  simp

set_option maxHeartbeats 2000000 in
theorem ref_cut_yes (s : ByteArray) (i j : Nat) (w : World) (hs : s.size < 1000000) (hv : validD s.data.toList = true) (hij : i ≤ j) (hj : j ≤ (runes s.data.toList).length) :
    Calls Tryd.prog 23 #[.string s, .int .i64 i, .int .i64 j] w fun e w' => e = .returned (.tuple #[.string (strOf (enc (((runes s.data.toList).drop i).take (j - i)))), .int .i64 0]) ∧ Below w.heap.size w w' := by
  have H := Lib.hid (ref_list_yes s w hs hv)
  have hC := isC_runes _ hv
  have hR := runes_length s.data.toList
  rw [size_list] at hR
  generalize runes s.data.toList = R at *
  have HC := Lib.hid hC
  obtain ⟨n, hn⟩ : ∃ n, R.length = n := ⟨_, rfl⟩
  have Hn := Lib.hid hn
  rw [hn] at hj hR
  obtain ⟨F, hF⟩ : ∃ F, strOf (enc ((R.drop i).take (j - i))) = F := ⟨_, rfl⟩
  rw [hF]
  have HF := Lib.hid hF
  clear hv hn hC hF
  have hijz : ¬ (j : Int) < i := by omega
  have hjnz : ¬ (n : Int) < j := by omega
  have hi0 : ¬ (i : Int) < 0 := by omega
  have hd0 : decide ((i : Int) < 0) = false := decide_eq_false (by omega)
  have hd1 : decide (j < i) = false := decide_eq_false (by omega)
  have hd2 : decide (n < j) = false := decide_eq_false (by omega)
  go_enter Tryd.func23, Tryd.ntmps23
  go_wp2_with (fail)
  refine H.out.mono ?_
  rintro e w1 ⟨⟨v, rfl, hv⟩, hb1⟩
  obtain ⟨A, cap, hvA, _, hr⟩ := hv
  subst hvA
  rw [Hn.out] at hr ⊢
  have Hr := Lib.hid hr
  clear H hr
  go_wp2_with (fail)
  clear hd0 hd1 hd2
  go_loopw [10, 11] (fun x s wr => ∃ (t : ByteArray) (k : Nat), x = .string t ∧ s = .int .i64 (k : Int) ∧ i ≤ k ∧ k ≤ j ∧ t.size ≤ 4 * k ∧ Hid (t.data.toList = enc ((R.drop i).take (k - i))) ∧ Below w.heap.size w wr ∧ Hid (Below w1.heap.size w1 wr)) (fun _ s _ => j - (intOf s).toNat)
  case atStart => exact ⟨⟨#[]⟩, i, rfl, rfl, Nat.le_refl _, hij, Nat.zero_le _, by show _ = _; rw [Nat.sub_self, List.take_zero]; rfl, hb1, Below.refl _ _⟩
  case round =>
    obtain ⟨t, k, rfl, rfl, hik, hkj, hts, HT, hb, HB1⟩ := hrel
    by_cases hlt : k < j
    · have hltz : (k : Int) < j := by omega
      have hkn : k < n := by omega
      obtain ⟨g, off, rfl, hcell⟩ := Hr.out (by omega)
      have hc0 := hcell k hkn
      have hc1 : wr.cell? ⟨g, off + k, none⟩ = some (.int .i64 (R.getD k 0)) := (HB1.out.cell (World.block_lt_of_cell? _ _ hc0)).trans hc0
      have hget : R[k]? = some (R.getD k 0) := by simp [List.getD, List.getElem?_eq_getElem (show k < R.length by rw [Hn.out]; exact hkn)]
      have hmem : R.getD k 0 ∈ R := List.mem_of_getElem? hget
      have htk : (R.drop i).take (k + 1 - i) = (R.drop i).take (k - i) ++ [R.getD k 0] := by
        rw [show k + 1 - i = k - i + 1 by omega, List.take_add_one, List.getElem?_drop, show i + (k - i) = k by omega, hget]
        rfl
      obtain ⟨c, hc⟩ : ∃ c, R.getD k 0 = c := ⟨_, rfl⟩
      rw [hc] at hc1 htk hmem
      have hcc := HC.out c hmem
      have HBy := Lib.hid (bytes_any c wr hcc)
      have hq1 := (runeCells_le c).2
      have hown := owned_rune wr c wr.heap.size (Nat.le_refl _)
      have hcv := owned_string hown
      have hpl : (strOf (encodeRune c)).size ≤ 4 := by
        have h1 := (encode_length c).2
        have h2 := size_list (strOf (encodeRune c))
        rw [strOf_list] at h2
        omega
      have hap : Hid ((t ++ strOf (encodeRune c)).data.toList = enc ((R.drop i).take (k + 1 - i))) := by
        show _ = _
        rw [htk, enc_append, ByteArray.data_append, Array.toList_append, HT.out, strOf_list]
        simp [enc]
      have hsz2 : (t ++ strOf (encodeRune c)).size ≤ 4 * (k + 1) := by rw [ByteArray.size_append]; omega
      generalize (runeCells c).length = q at *
      generalize strOf (encodeRune c) = P at *
      have hb2 := Lib.hid (hb.alloc hb.size (.cells (runeCells c).toArray 5))
      have hb3 : Hid (Below w1.heap.size w1 (wr.alloc (.cells (runeCells c).toArray 5))) := HB1.out.alloc HB1.out.size _
      clear hc0 hget hmem htk hc hcc hown hcell HT
      generalize (Obj.cells (runeCells c).toArray 5) = O at *
      go_wp2_with (fail)
      refine HBy.out.mono ?_
      rintro e w2 ⟨rfl, rfl⟩
      go_wp2_with (fail)
      go_roundw
      case rel => exact ⟨t ++ P, k + 1, rfl, by go_num, by omega, by omega, hsz2, hap, hb2.out, hb3⟩
      case measure => simp [intOf]; omega
    · have hltz : ¬ (k : Int) < j := by omega
      have hkj2 : k = j := by omega
      subst hkj2
      have htF : t = F := by rw [← HF.out]; exact strOf_eq HT.out
      subst htF
      clear HT HF
      go_wp2_with (fail)
      go_ret2
      exact ⟨rfl, hb⟩
end Go.Proofs.YtagcfgonajogcaaDoor.RefStrs
