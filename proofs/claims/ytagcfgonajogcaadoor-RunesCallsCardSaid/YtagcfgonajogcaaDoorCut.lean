/- The contracts of runes.offset and runes.Cut. -/
import Derived.Test.YtagcfgonajogcaaDoorStrs
import Derived.Test.YtagcfgonajogcaaDoorUtf2
namespace Go.Proofs.YtagcfgonajogcaaDoor.Cuts
open Go.RowKit Go.Shelf Go.Lib
open Go.Proofs.YtagcfgonajogcaaDoor.Utf Go.Proofs.YtagcfgonajogcaaDoor.Strs

/-- Where in the encoding of a list the character at an index begins. -/
def place (R : List Int) (k : Nat) : Nat := (enc (R.take k)).length
theorem place_zero (R : List Int) : place R 0 = 0 := rfl
theorem place_succ (R : List Int) (k : Nat) (c : Int) (h : R[k]? = some c) : place R (k + 1) = place R k + (encodeRune c).length := by
  unfold place
  rw [List.take_add_one, h, enc_append, List.length_append]
  simp [enc]
theorem drop_place (R : List Int) (k : Nat) : (enc R).drop (place R k) = enc (R.drop k) := by
  have h : enc R = enc (R.take k) ++ enc (R.drop k) := by rw [← enc_append, List.take_append_drop]
  unfold place
  rw [h, List.drop_left]
theorem place_le (R : List Int) (k : Nat) : place R k ≤ (enc R).length := by
  conv => rhs; rw [← List.take_append_drop k R, enc_append, List.length_append]
  unfold place
  omega
theorem place_all (R : List Int) (k : Nat) (h : R.length ≤ k) : place R k = (enc R).length := by
  unfold place
  rw [List.take_of_length_le h]
theorem le_place (R : List Int) (k : Nat) (h : k ≤ R.length) : k ≤ place R k := by
  induction k with
  | zero => exact Nat.zero_le _
  | succ k ih =>
    have := ih (by omega)
    have h1 : R[k]? = some R[k] := List.getElem?_eq_getElem (by omega)
    rw [place_succ R k _ h1]
    have := (encode_length R[k]).1
    omega

theorem decode_place (s : ByteArray) (R : List Int) (hR : s.data.toList = enc R) (hC : ∀ c ∈ R, isC c) (k : Nat) (c : Int) (h : R[k]? = some c) : Utf8.decode s (place R k) = (c.toNat, (encodeRune c).length) := by
  rw [← from_decode]
  unfold from_
  rw [hR, drop_place]
  have hd : R.drop k = c :: R.drop (k + 1) := by
    obtain ⟨hk, rfl⟩ := List.getElem?_eq_some_iff.1 h
    exact List.drop_eq_getElem_cons hk
  rw [hd, enc_cons]
  exact decode_encode c (hC c (List.mem_of_getElem? h)) _

set_option maxHeartbeats 1000000 in
theorem offset_any (s : ByteArray) (R : List Int) (i : Nat) (w : World) (hs : s.size < 1000000) (hR : s.data.toList = enc R) (hC : ∀ c ∈ R, isC c) (hi : i ≤ R.length) :
    Calls Tryd.prog 38 #[.string s, .int .i64 i] w fun e w' => e = .returned (.int .i64 (place R i)) ∧ Below w.heap.size w w' := by
  have hsz : (enc R).length = s.size := by rw [← hR]; simp
  obtain ⟨A, hA⟩ : ∃ A, place R i = A := ⟨_, rfl⟩
  rw [hA]
  have HA := Lib.hid hA
  have HSz := Lib.hid hsz
  have hiz : (i : Int) ≤ 1000000 := by
    have h1 := le_place R i hi
    have h2 := place_le R i
    rw [hsz] at h2
    omega
  have HX := Lib.hid (fun k c (h : R[k]? = some c) => decode_place s R hR hC k c h)
  clear hA hsz hR hC
  go_enter Tryd.func38, Tryd.ntmps38
  go_wp2
  go_loopw [5] (fun ix wr => ∃ (pos k : Nat), wr = w.iter s pos ∧ ix = .int .i64 k ∧ k ≤ i ∧ Hid (pos = place R k)) (fun _ wr => s.size - wr.iterPos w.heap.size)
  case atStart => exact ⟨0, 0, rfl, rfl, Nat.zero_le _, rfl⟩
  case round =>
    obtain ⟨pos, k, rfl, rfl, hk, HP⟩ := hrel
    by_cases hp : pos < s.size
    · have hnx : ∀ ty, (Instr.next (.pointer (some ⟨w.heap.size, 0, none⟩)) true ty).run Tryd.prog (w.iter s pos) = _ := fun ty => run_next_any w s pos ty hp
      by_cases hki : k = i
      · subst hki
        have hAp : A = pos := by rw [← HA.out, HP.out]
        subst hAp
        clear HA HP HX HSz
        have hle := decode_le s A
        generalize Utf8.decode s A = D at *
        obtain ⟨d, dw⟩ := D
        clear hle
        go_wp2
        go_ret
        exact ⟨rfl, (Below.refl _ _).alloc (Nat.le_refl _) _⟩
      · have hkR : k < R.length := by omega
        have hc : R[k]? = some R[k] := List.getElem?_eq_getElem hkR
        have hd := HX.out k _ hc
        rw [← HP.out] at hd
        have hdw := (encode_length R[k]).1
        have hpl : Hid (pos + (encodeRune R[k]).length = place R (k + 1)) := by show _ = _; rw [place_succ R k _ hc, HP.out]
        have hne : ((k : Int) == (i : Int)) = false := by simp; omega
        have hne2 : (k == i) = false := by simp; omega
        rw [hd] at hnx
        generalize (encodeRune R[k]).length = dw at *
        generalize R[k].toNat = d at *
        clear hd hc HX HA HP
        have hk' : k < i := by omega
        clear hki
        go_wp2
        go_roundw
        case rel => exact ⟨pos + dw, k + 1, rfl, by go_num, by omega, hpl⟩
        case measure => simp; omega
    · have hnx : ∀ ty, (Instr.next (.pointer (some ⟨w.heap.size, 0, none⟩)) true ty).run Tryd.prog (w.iter s pos) = _ := fun ty => run_next_end w s pos ty hp
      have hAp : A = s.size := by
        rw [← HA.out, ← HSz.out]
        have h1 := place_le R k
        rw [← HP.out, HSz.out] at h1
        have hkl : R.length ≤ k := by
          rcases Nat.lt_or_ge k R.length with h | h
          · have hc : R[k]? = some R[k] := List.getElem?_eq_getElem h
            have h2 := place_le R (k + 1)
            rw [place_succ R k _ hc, ← HP.out, HSz.out] at h2
            have := (encode_length R[k]).1
            omega
          · exact h
        exact place_all R i (by omega)
      subst hAp
      clear HA HP HX HSz
      go_wp2
      go_ret
      exact ⟨rfl, (Below.refl _ _).alloc (Nat.le_refl _) _⟩

theorem cut_form (s : ByteArray) (i j : Int) (w : World) (hs : s.size < 9223372036854775807) (hT : Tabs w) (hv : validD s.data.toList = false) :
    Calls Tryd.prog 11 #[.string s, .int .i64 i, .int .i64 j] w fun e w' => e = .returned (.tuple #[.string ⟨#[]⟩, .int .i64 5]) ∧ Below w.heap.size w w' := by
  have h := valid_any s w (by omega) hT
  rw [hv] at h
  have HV := Lib.hid h
  clear h hv
  go_enter Tryd.func11, Tryd.ntmps11
  go_wp2_with (go_at_call 20; refine HV.out.mono ?_; rintro e w' ⟨rfl, hb⟩)
  go_ret2
  exact ⟨rfl, hb⟩

set_option maxHeartbeats 1000000 in
theorem cut_range (s : ByteArray) (i j : Int) (w : World) (hs : s.size < 1000000) (hT : Tabs w) (hv : validD s.data.toList = true) (hr : i < 0 ∨ j < i ∨ ((runes s.data.toList).length : Int) < j) :
    Calls Tryd.prog 11 #[.string s, .int .i64 i, .int .i64 j] w fun e w' => e = .returned (.tuple #[.string ⟨#[]⟩, .int .i64 3]) ∧ Below w.heap.size w w' := by
  have h := valid_any s w (by omega) hT
  rw [hv] at h
  have HV := Lib.hid h
  have hl := fun w1 (hb : Below w.heap.size w w1) => len_any s w1 (by omega) (hT.below hb)
  rw [show lenL s.data.toList = (runes s.data.toList).length by simp [lenL, hv]] at hl
  have HL := Lib.hid hl
  clear h hv hT hl
  generalize (runes s.data.toList).length = n at *
  by_cases h1 : i < 0
  · clear hr HL
    go_enter Tryd.func11, Tryd.ntmps11
    go_wp2_with (go_at_call 20; refine HV.out.mono ?_; rintro e w' ⟨rfl, hb⟩)
    go_ret2
    exact ⟨rfl, hb⟩
  · by_cases h2 : j < i
    · clear hr HL
      go_enter Tryd.func11, Tryd.ntmps11
      go_wp2_with (go_at_call 20; refine HV.out.mono ?_; rintro e w' ⟨rfl, hb⟩)
      go_ret2
      exact ⟨rfl, hb⟩
    · have h3 : (n : Int) < j := by omega
      clear hr
      go_enter Tryd.func11, Tryd.ntmps11
      go_wp2_with (first
        | (go_at_call 20; refine HV.out.mono ?_; rintro e w1 ⟨rfl, hb⟩)
        | (go_at_call 28; refine (HL.out _ (by assumption)).mono ?_; rintro e w2 ⟨rfl, hb2⟩))
      go_ret2
      exact ⟨rfl, hb.trans (hb2.mono hb.size)⟩

theorem take_list (s : ByteArray) (k : Nat) : (s.extract 0 k).data.toList = s.data.toList.take k := by
  rw [ByteArray.data_extract, Array.toList_extract]
  simp [List.extract_eq_take_drop]
theorem size_list (s : ByteArray) : s.data.toList.length = s.size := by simp

/-- What Cut leaves of a part that there is. -/
def CutsTo (w : World) (l : List Int) (e : Ending) (w' : World) : Prop := ∃ t : ByteArray, e = .returned (.tuple #[.string t, .int .i64 0]) ∧ t.data.toList = enc l ∧ Below w.heap.size w w'

set_option maxHeartbeats 2000000 in
theorem cut_yes (s : ByteArray) (i j : Nat) (w : World) (hs : s.size < 1000000) (hT : Tabs w) (hv : validD s.data.toList = true) (hij : i ≤ j) (hj : j ≤ (runes s.data.toList).length) :
    Calls Tryd.prog 11 #[.string s, .int .i64 i, .int .i64 j] w (CutsTo w (((runes s.data.toList).drop i).take (j - i))) := by
  have h := valid_any s w (by omega) hT
  rw [hv] at h
  have HV := Lib.hid h
  have hl := fun w1 (hb : Below w.heap.size w w1) => len_any s w1 (by omega) (hT.below hb)
  rw [show lenL s.data.toList = (runes s.data.toList).length by simp [lenL, hv]] at hl
  have HL := Lib.hid hl
  have hR : s.data.toList = enc (runes s.data.toList) := (enc_runes _ hv).symm
  have hC := isC_runes _ hv
  have hn := runes_length s.data.toList
  rw [size_list] at hn
  unfold CutsTo
  generalize runes s.data.toList = R at *
  have hp1 := place_le R i
  have hsz : (enc R).length = s.size := by rw [← hR, size_list]
  rw [hsz] at hp1
  have HO1 := Lib.hid (fun w1 => offset_any s R i w1 hs hR hC (by omega))
  have hrest : (s.extract (place R i) s.size).data.toList = enc (R.drop i) := by rw [ext_list, hR, drop_place]
  have hrs : (s.extract (place R i) s.size).size = s.size - place R i := ext_size s (place R i)
  have HO2 := Lib.hid (fun w1 => offset_any (s.extract (place R i) s.size) (R.drop i) (j - i) w1 (by omega) hrest (fun c hc => hC c (List.mem_of_mem_drop hc)) (by rw [List.length_drop]; omega))
  have hp2 := place_le (R.drop i) (j - i)
  rw [← hrest, size_list] at hp2
  have hres : ((s.extract (place R i) s.size).extract 0 (place (R.drop i) (j - i))).data.toList = enc ((R.drop i).take (j - i)) := by
    have h1 : ((s.extract (place R i) s.size).extract 0 (place (R.drop i) (j - i))).data.toList = (s.extract (place R i) s.size).data.toList.take (place (R.drop i) (j - i)) := take_list _ _
    rw [h1, hrest]
    unfold place
    conv => lhs; arg 2; rw [← List.take_append_drop (j - i) (R.drop i), enc_append]
    rw [List.take_left]
  have HR := Lib.hid hres
  have Hrs := Lib.hid hrs
  have hrs2 : (s.extract (place R i) s.size).size ≤ 1000000 := by omega
  clear h hT hl hR hC hv hsz hrest hres hrs
  generalize place (R.drop i) (j - i) = p2 at *
  generalize place R i = p1 at *
  have hsub : (j : Int) - (i : Int) = ((j - i : Nat) : Int) := by omega
  have Hsub := Lib.hid hsub
  clear hsub
  have hi0 : ¬ (i : Int) < 0 := by omega
  have hij0 : ¬ (j : Int) < (i : Int) := by omega
  have hjn : ¬ ((R.length : Nat) : Int) < (j : Int) := by omega
  generalize R.length = n at *
  go_enter Tryd.func11, Tryd.ntmps11
  go_wp2_with (first
    | (go_at_call 20; refine HV.out.mono ?_; rintro e w1 ⟨rfl, hb1⟩)
    | (go_at_call 28; refine (HL.out _ (by assumption)).mono ?_; rintro e w2 ⟨rfl, hb2⟩)
    | fail)
  clear HV HL
  refine (HO1.out _).mono ?_
  rintro e w3 ⟨rfl, hb3⟩
  clear HO1
  go_wp2_with (fail)
  rw [Hsub.out]
  refine (HO2.out _).mono ?_
  rintro e w4 ⟨rfl, hb4⟩
  clear HO2
  go_wp2_with (fail)
  go_ret2
  exact ⟨_, rfl, HR.out, ((hb1.trans (hb2.mono hb1.size)).trans (hb3.mono (hb1.trans (hb2.mono hb1.size)).size)).trans (hb4.mono ((hb1.trans (hb2.mono hb1.size)).trans (hb3.mono (hb1.trans (hb2.mono hb1.size)).size)).size)⟩
end Go.Proofs.YtagcfgonajogcaaDoor.Cuts
