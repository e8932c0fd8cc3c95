/- The contracts of the string builder's copyCheck and WriteRune in this translation. | The contracts of numeral, integer, intern, token. -/
import Derived.Test.YtlibdhnlmekmhaaGreatDoorRows
import Derived.Shelf.Strings.BuilderRune
import Derived.Lib.Hide
import Derived.Shelf.Strings.SlTrimAscii
import Derived.Test.YtlibdhnlmekmhaaGreatDoorMgNames03
import Derived.Test.YtlibdhnlmekmhaaGreatDoorMgNames16
import Derived.Test.YtlibdhnlmekmhaaGreatDoorMgNames21
import Derived.Test.YtlibdhnlmekmhaaGreatDoorMgNames24
/- The contracts of the string builder's copyCheck and WriteRune in this translation. -/
section
namespace Go.Proofs.YtlibdhnlmekmhaaGreatDoor.Build
set_option maxRecDepth 100000
open Go.RowKit Go.Shelf Go.Lib

theorem sizeB : (Tryz.prog.info? 171).map (·.size) = some 2 := by kernel_rfl
theorem liesB : liesAt Tryz.prog Tryz.prog.depth 171 (2 / Tryz.prog.cellsOf 171) 0 171 1 = true := by kernel_rfl

set_option maxHeartbeats 1000000 in
theorem copy_used (b : Nat) (w : World) (h0 : w.cell? ⟨b, 0, none⟩ = some (.pointer (some ⟨b, 0, none⟩))) :
    Calls Tryz.prog 198 #[.pointer (some ⟨b, 0, none⟩)] w fun e w' => e = .returned (.tuple #[]) ∧ w' = w := by
  obtain ⟨j, hj, _⟩ := Option.map_eq_some_iff.1 sizeB
  go_enter Tryz.func198, Tryz.ntmps198
  go_wp2
  rw [Lib.run_neq_ptr_same w _ Tryz.underlying169 hj]
  go_wp2
  go_end0
  exact ⟨rfl, rfl⟩

set_option maxHeartbeats 1000000 in
theorem copy_fresh (b : Nat) (w : World) (h0 : w.cell? ⟨b, 0, none⟩ = some (.pointer none)) (hsh : w.shape? b = some (171, 2)) (hfz : w.frozen? ⟨b, 0, none⟩ = false) :
    Calls Tryz.prog 198 #[.pointer (some ⟨b, 0, none⟩)] w fun e w' => e = .returned (.tuple #[]) ∧ w' = w.setCell ⟨b, 0, none⟩ (.pointer (some ⟨b, 0, none⟩)) := by
  obtain ⟨j, hj, hjs⟩ := Option.map_eq_some_iff.1 sizeB
  go_enter Tryz.func198, Tryz.ntmps198
  go_wp2
  rw [Lib.run_to_unsafe w ⟨b, 0, none⟩ Tryz.underlying169 Tryz.underlying211 hj (by rw [hjs]; decide) hsh (Nat.zero_lt_succ 1)]
  simp only [Result.andThen]
  rw [Oper.upon_value]
  go_wp2
  rw [run_callFunc_extern Tryz.func214 (by kernel_rfl) (by kernel_rfl) (by kernel_rfl) (e := Extern.AbiNoEscape.same) (by kernel_rfl)]
  rw [Lib.run_noEscape]
  simp only [Result.andThen]
  rw [Oper.upon_value]
  go_wp2
  rw [Lib.run_from_unsafe w ⟨b, 0, none⟩ Tryz.underlying211 Tryz.underlying169 hj hsh liesB]
  simp only [Result.andThen]
  rw [Oper.upon_value]
  go_wp2
  go_end0
  exact ⟨rfl, rfl⟩

theorem copy_any (B b : Nat) (bs : List Value) (w : World) (h : Lib.IsBuilderF 171 5 B b bs w) :
    Calls Tryz.prog 198 #[.pointer (some ⟨b, 0, none⟩)] w fun e w' => e = .returned (.tuple #[]) ∧ Lib.BuilderAtF 171 5 B b (.pointer (some ⟨b, 0, none⟩)) bs w' ∧ Below B w w' := by
  rcases h with h | h
  · refine (copy_fresh b w h.cell0 h.shape h.frozen0).mono ?_
    rintro e w' ⟨rfl, rfl⟩
    exact ⟨rfl, h.used _, (Below.refl B w).setCell (p := ⟨b, 0, none⟩) h.1 _⟩
  · refine (copy_used b w h.cell0).mono ?_
    rintro e w' ⟨rfl, rfl⟩
    exact ⟨rfl, h, Below.refl B _⟩

set_option maxHeartbeats 2000000 in
set_option maxRecDepth 100000 in
theorem writeRune (B b : Nat) (bs : List Value) (r : Int) (hr0 : -2147483648 ≤ r) (hr1 : r ≤ 2147483647) (w : World) (h : Lib.IsBuilderF 171 5 B b bs w) (hlen : bs.length + 4 ≤ 140737488355328) (hBw : B ≤ w.heap.size) :
    Calls Tryz.prog 173 #[.pointer (some ⟨b, 0, none⟩), .int .i32 r] w fun e w' => (∃ v, e = .returned v) ∧ Lib.IsBuilderF 171 5 B b (bs ++ Lib.runeCells r) w' ∧ Below B w w' := by
  have hk4 := Lib.runeCells_le r
  have HC := Lib.hid (copy_any B b bs w h)
  clear h
  go_enter Tryz.func173, Tryz.ntmps173
  go_wp2_with (fail)
  refine HC.out.mono ?_
  rintro e w1 ⟨rfl, h1, hb1⟩
  clear HC
  obtain ⟨hB, v, hbk, hown, hne⟩ := h1
  obtain ⟨ao, cap, rfl⟩ : ∃ ao cap, v = .slice ao bs.length cap := by
    rcases hown.2 with ⟨hv, h0⟩ | ⟨g, cap, cur, fz, hv, _⟩
    · exact ⟨none, 0, by rw [hv, h0]⟩
    · exact ⟨_, _, hv⟩
  have c0 : w1.cell? ⟨b, 0, none⟩ = some (.pointer (some ⟨b, 0, none⟩)) := by rw [Lib.cell_of_heap hbk]; rfl
  have c1 : w1.cell? ⟨b, 1, none⟩ = some (.slice ao bs.length cap) := by rw [Lib.cell_of_heap hbk]; rfl
  have HA := Lib.hid (Tryz.utf8_AppendRune_row B (.slice ao bs.length cap) bs.length bs r hr0 hr1 w1 hown hlen (by have := hb1.size; omega))
  have Hbk := Lib.hid hbk
  have Hne := Lib.hid hne
  have Hown := Lib.hid hown
  clear hbk hne hown
  go_wp2_with (fail)
  refine HA.out.mono ?_
  rintro e w2 ⟨v', rfl, hown', o, hgrow⟩
  have hlt : b < w1.heap.size := (Array.getElem?_eq_some_iff.1 Hbk.out).1
  have hb2 : w2.heap[b]? = some (.cells #[.pointer (some ⟨b, 0, none⟩), .slice ao bs.length cap] 171 (0, 0)) := by
    rw [hgrow.block b (by simp; omega) (fun e => Hne.out e.symm), Lib.alloc_old w1 _ b hlt]
    exact Hbk.out
  have d0 : w2.cell? ⟨b, 0, none⟩ = some (.pointer (some ⟨b, 0, none⟩)) := by rw [Lib.cell_of_heap hb2]; rfl
  have d1 : w2.cell? ⟨b, 1, none⟩ = some (.slice ao bs.length cap) := by rw [Lib.cell_of_heap hb2]; rfl
  have f1 : w2.frozen? ⟨b, 1, none⟩ = false := Lib.frozen_of_heap hb2 1
  obtain ⟨g, cap', rfl⟩ : ∃ g cap', v' = .slice (some ⟨g, 0, none⟩) (bs.length + (Lib.runeCells r).length) cap' := by
    rcases hown'.2 with ⟨_, h0⟩ | ⟨g, cap', cur, fz, hv, _⟩
    · omega
    · exact ⟨g, cap', hv⟩
  have Hb2 := Lib.hid hb2
  have Hown' := Lib.hid hown'
  have Hgrow := Lib.hid hgrow
  clear hb2 hown' hgrow
  go_wp2
  go_ret2
  refine ⟨⟨_, rfl⟩, .inr ?_, ?_⟩
  · exact Lib.BuilderAtF.put (T := 171) (e := 5) hB Hb2.out (bs' := bs ++ Lib.runeCells r) (by simpa using Hown'.out) (by decide)
  · exact ((hb1.alloc (by have := hb1.size; omega) _).grown Hgrow.out (by have := hb1.size; simp; omega) (fun k hk => (Hown.out.lt k hk).1)).setCell (p := ⟨b, 1, none⟩) hB _
end Go.Proofs.YtlibdhnlmekmhaaGreatDoor.Build
end

/- The contracts of numeral, integer, intern, token. -/
section
namespace Go.Proofs.YtlibdhnlmekmhaaGreatDoor.Rd
set_option maxRecDepth 100000
open Go.RowKit Go.Lib
open Go.Proofs.YtlibdhnlmekmhaaGreatDoor.Own Go.Proofs.YtlibdhnlmekmhaaGreatDoor.Hp Go.Proofs.YtlibdhnlmekmhaaGreatDoor.Rep Go.Proofs.YtlibdhnlmekmhaaGreatDoor.Get Go.Proofs.YtlibdhnlmekmhaaGreatDoor.Utf

theorem trim_any (s : ByteArray) (hs : s.size ≤ 4000000) (w : World) :
    Calls Tryz.prog 203 #[.string s, .string ⟨#[48, 49, 50, 51, 52, 53, 54, 55, 56, 57]⟩] w fun e w' => e = .returned (.string ⟨(trimS s.data.toList digitsB).toArray⟩) ∧ Below w.heap.size w w' :=
  Any.strings_Trim_laid Tryz.lays160 (by kernel_rfl) s ⟨#[48, 49, 50, 51, 52, 53, 54, 55, 56, 57]⟩ w (by omega) (by decide) (ascii_of_all (by decide))
/-- What is trimmed away. -/
theorem trim_all {s : ByteArray} (h : s.data.toList.all (digitsB.contains ·) = true) : (⟨(trimS s.data.toList digitsB).toArray⟩ : ByteArray).toList.isEmpty = true := by
  rw [toList_data]
  simp [(trimS_nil s.data.toList digitsB).2 h]
theorem trim_some {s : ByteArray} (h : s.data.toList.all (digitsB.contains ·) = false) : (⟨(trimS s.data.toList digitsB).toArray⟩ : ByteArray).toList.isEmpty = false := by
  rw [toList_data]
  cases hh : trimS s.data.toList digitsB with
  | nil => rw [(trimS_nil _ _).1 hh] at h; cases h
  | cons b l => simp
theorem numeral_rest (s T : ByteArray) (hs : s.size ≤ 4000000) (h0 : 0 < s.size) (B : Bool) (hB : B = (!T.data.toList.isEmpty && T.data.toList.all (digitsB.contains ·)))
    (h1 : ((s[0].toNat = 43 ∨ s[0].toNat = 45) ∧ T = s.extract 1 s.size) ∨ (s[0].toNat ≠ 43 ∧ s[0].toNat ≠ 45 ∧ T = s)) (w : World) :
    Calls Tryz.prog 178 #[.string s] w fun e w' => e = .returned (.bool B) ∧ Below w.heap.size w w' := by
  have hTs : T.size ≤ 4000000 := by
    rcases h1 with ⟨_, rfl⟩ | ⟨_, _, rfl⟩
    · rw [ByteArray.size_extract]; omega
    · exact hs
  have HT := Lib.hid (trim_any T hTs)
  have h9 : T.toList = T.data.toList := toList_data T
  cases he : T.data.toList.isEmpty with
  | true =>
    rw [he] at hB
    have hB2 : B = false := by rw [hB]; rfl
    subst hB2
    have h2 : T.toList.isEmpty = true := by rw [h9]; exact he
    have h3 : T.toList = [] := by simpa using h2
    have HZ := Lib.hid (show T.size = 0 by rw [Lib.size_eq, List.isEmpty_iff.1 he]; rfl)
    clear hB he h9 HT hTs
    rcases h1 with ⟨k | k, rfl⟩ | ⟨k1, k2, rfl⟩
    · go_enter Tryz.func178, Tryz.ntmps178
      go_wp2_with fail
      go_ret
      exact ⟨rfl, Below.refl _ _⟩
    · go_enter Tryz.func178, Tryz.ntmps178
      go_wp2_with fail
      go_ret
      exact ⟨rfl, Below.refl _ _⟩
    · have := HZ.out
      omega
  | false =>
    rw [he] at hB
    have h2 : T.toList.isEmpty = false := by rw [h9]; exact he
    have h2' : (!T.toList.isEmpty) = true := by rw [h2]; rfl
    obtain ⟨U, hU⟩ : ∃ U : ByteArray, (⟨(trimS T.data.toList digitsB).toArray⟩ : ByteArray) = U := ⟨_, rfl⟩
    rw [hU] at HT
    have hUB : U.toList.isEmpty = B := by
      rw [← hU, hB]
      cases ha : T.data.toList.all (digitsB.contains ·) with
      | true => rw [trim_all ha]; rfl
      | false => rw [trim_some ha]; rfl
    clear hB he h9 hU hTs
    rcases h1 with ⟨k | k, rfl⟩ | ⟨k1, k2, rfl⟩
    · go_enter Tryz.func178, Tryz.ntmps178
      go_wp2_with (go_at_call 203; refine (HT.out _).mono ?_; rintro e w' ⟨rfl, hb⟩)
      all_goals (go_ret; exact ⟨by simp_all, hb⟩)
    · go_enter Tryz.func178, Tryz.ntmps178
      go_wp2_with (go_at_call 203; refine (HT.out _).mono ?_; rintro e w' ⟨rfl, hb⟩)
      all_goals (go_ret; exact ⟨by simp_all, hb⟩)
    · have n1 : (T[0].toNat == 43) = false := by simpa using k1
      have n2 : (T[0].toNat == 45) = false := by simpa using k2
      have n3 : ((T[0].toNat : Int) == 43) = false := by simp; omega
      have n4 : ((T[0].toNat : Int) == 45) = false := by simp; omega
      clear k1 k2
      go_enter Tryz.func178, Tryz.ntmps178
      go_wp2_with (go_at_call 203; refine (HT.out _).mono ?_; rintro e w' ⟨rfl, hb⟩)
      all_goals (go_ret; exact ⟨by simp_all, hb⟩)
theorem strOf_size (l : List UInt8) : (strOf l).size = l.length := by rw [Lib.size_eq, strOf_list]
theorem enc_len4 : ∀ (R : List Int), (enc R).length ≤ 4 * R.length
  | [] => by simp [enc]
  | c :: R => by
    have := enc_len4 R
    have := (encode_length c).2
    rw [enc_cons, List.length_append, List.length_cons]
    omega
theorem strOf_zero {b : UInt8} {t : List UInt8} (h : 0 < (strOf (b :: t)).size) : (strOf (b :: t))[0] = b := rfl
theorem strOf_tail (b : UInt8) (t : List UInt8) : (strOf (b :: t)).extract 1 (strOf (b :: t)).size = strOf t := by
  rw [extract_from, strOf_list]
  rfl
/-- numeral, at the bytes of a token's characters. -/
theorem numeral_any (acc : List Int) (hne : acc ≠ []) (hc : ∀ c ∈ acc, isC c) (hl : acc.length ≤ 1000000) (w : World) :
    Calls Tryz.prog 178 #[.string (strOf (enc acc))] w fun e w' => e = .returned (.bool (numB acc)) ∧ Below w.heap.size w w' := by
  cases acc with
  | nil => exact absurd rfl hne
  | cons c r =>
    have hcc := hc c (by simp)
    have hcr : ∀ x ∈ r, isC x := fun x hx => hc x (List.mem_cons_of_mem _ hx)
    obtain ⟨b, t, he, hb⟩ := enc_head hcc r
    have hlen := enc_len4 (c :: r)
    have hsz : (strOf (enc (c :: r))).size ≤ 4000000 := by rw [strOf_size]; omega
    rw [he] at hsz ⊢
    have h0 : 0 < (strOf (b :: t)).size := by rw [strOf_size]; simp
    by_cases hs : c = 43 ∨ c = 45
    · rcases hb with ⟨_, hb, ht⟩ | ⟨hb, _⟩
      · refine numeral_rest _ (strOf t) hsz h0 _ ?_ (.inl ⟨?_, (strOf_tail b t).symm⟩) w
        · rw [strOf_list, ht, all_digits r hcr]
          unfold numB
          rw [show unsign (c :: r) = r by simp only [unsign]; rw [if_pos hs]]
          congr 2
          cases r with
          | nil => rfl
          | cons d r => rw [enc_cons]; cases hd : encodeRune d ++ enc r with
            | nil => exact absurd hd (encode_ne d _)
            | cons _ _ => rfl
        · rw [strOf_zero h0, hb, low_byte hcc.1 (by omega)]
          omega
      · omega
    · refine numeral_rest _ (strOf (b :: t)) hsz h0 _ ?_ (.inr ⟨?_, ?_, rfl⟩) w
      · rw [strOf_list, ← he, all_digits (c :: r) hc]
        unfold numB
        rw [show unsign (c :: r) = c :: r by simp only [unsign]; rw [if_neg hs], he]
        rfl
      · rw [strOf_zero h0]
        rcases hb with ⟨_, hb, _⟩ | ⟨_, hb⟩
        · rw [hb, low_byte hcc.1 (by omega)]; have := hcc.1; omega
        · omega
      · rw [strOf_zero h0]
        rcases hb with ⟨_, hb, _⟩ | ⟨_, hb⟩
        · rw [hb, low_byte hcc.1 (by omega)]; have := hcc.1; omega
        · omega
/-- How integer ends. -/
def intE (acc : List Int) (k : Nat) : Ending := if -2305843009213693952 ≤ intV acc ∧ intV acc ≤ 2305843009213693951 then .returned (wd (0, intV acc)) else faultE 15 k
theorem bytes_below {w w' : World} {t5 : TypeId} (h : w' = w ∨ ∃ t, w' = Lib.bytesWorld w t5 t) : Below w.heap.size w w' := by
  rcases h with rfl | ⟨t, rfl⟩
  · exact Below.refl _ _
  · exact Lib.bytesWorld_below _ _ _
/-- integer, at a numeral. -/
theorem integer_any (acc : List Int) (hn : numB acc = true) (hc : ∀ c ∈ acc, isC c) (hl : acc.length ≤ 1000000) (k : Nat) (w : World) (hE : ErrVar w) :
    Calls Tryz.prog 179 #[.string (strOf (enc acc)), .int .i64 (k : Int)] w fun e w' => e = intE acc k ∧ Below w.heap.size w w' := by
  have hlen := enc_len4 acc
  have hsz : (strOf (enc acc)).size ≤ 4000000 := by rw [strOf_size]; omega
  have hA := atoi_num hc hn
  rw [← strOf_list (enc acc)] at hA
  unfold intE
  generalize strOf (enc acc) = s at *
  obtain ⟨v, hv⟩ : ∃ v, intV acc = v := ⟨_, rfl⟩
  rw [hv] at hA ⊢
  have hW1 : Below w.heap.size w (w.alloc (.cells #[.int .i64 0, .int .i64 0] 28)) := (Below.refl _ _).alloc (Nat.le_refl _) _
  rcases hA with hA | ⟨hA, hr⟩
  · have HA := Lib.hid (fun w => (Tryz.strconv_Atoi_ok s (by omega) v hA w).mono (R' := fun e w' => e = .returned (.tuple #[.int .i64 v, .nilIface]) ∧ Below w.heap.size w w') fun e w' ⟨he, hw⟩ => ⟨he, bytes_below hw⟩)
    have HW := Lib.hid hW1
    clear hA hn hv hlen hW1 hc hl hE
    by_cases hin : -2305843009213693952 ≤ v ∧ v ≤ 2305843009213693951
    · rw [if_pos hin]
      have n1 : ¬ v < -2305843009213693952 := by omega
      have n2 : ¬ 2305843009213693951 < v := by omega
      clear hin
      go_enter Tryz.func179, Tryz.ntmps179
      go_wp2_with (go_at_call 204; refine (HA.out _).mono ?_; rintro e w1 ⟨rfl, hw⟩; have HB := Lib.hid hw; have hB := one_new hw; obtain ⟨b0, b1, e0, e1⟩ := hB.two; clear hB hw)
      refine bodyPost_ret (v := wd (0, v)) (by simp [results, Tryz.results179, go_sem, b0, b1]) rfl ⟨rfl, ?_⟩
      exact ((HW.out.trans (HB.out.mono HW.out.size)).setCell (by simp) _).setCell (by simp) _
    · rw [if_neg hin]
      have HI := Lib.hid hin
      clear hin
      unfold faultE
      go_enter Tryz.func179, Tryz.ntmps179
      go_wp2_with (go_at_call 204; refine (HA.out _).mono ?_; rintro e w1 ⟨rfl, hw⟩; have HB := Lib.hid hw; have hB := one_new hw; obtain ⟨b0, b1, e0, e1⟩ := hB.two; clear hB hw)
      all_goals first
        | exact ⟨rfl, rfl, HW.out.trans (HB.out.mono HW.out.size)⟩
        | (exfalso; exact HI.out (by omega))
  · rw [if_neg hr]
    obtain ⟨ev, hev, hev2⟩ := hE.below hW1
    have HA := Lib.hid ((Tryz.strconv_Atoi_range s (by omega) hA ev _ hev hev2).mono (R' := fun e w' => ∃ N, e = .returned (.tuple #[.int .i64 (Lib.atoiSat s.data.toList), .iface 244 (.pointer (some ⟨N, 0, none⟩))]) ∧ Below (w.alloc (.cells #[.int .i64 0, .int .i64 0] 28)).heap.size (w.alloc (.cells #[.int .i64 0, .int .i64 0] 28)) w') fun e w' ⟨N, he, _, _, h3⟩ => ⟨N, he, h3⟩)
    have HW := Lib.hid hW1
    generalize Lib.atoiSat s.data.toList = sat at *
    clear hA hn hv hlen hW1 hc hl hE hev hev2 hr
    unfold faultE
    go_enter Tryz.func179, Tryz.ntmps179
    go_wp2_with (go_at_call 204; refine HA.out.mono ?_; rintro e w1 ⟨N, rfl, hw⟩; have HB := Lib.hid hw; clear hw)
    all_goals exact ⟨rfl, rfl, HW.out.trans (HB.out.mono HW.out.size)⟩
end Go.Proofs.YtlibdhnlmekmhaaGreatDoor.Rd
end
