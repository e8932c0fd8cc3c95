/- The contracts of numeral, integer, intern, token. | A form does not depend on what stands behind it and a blank. | A form does not depend on what stands behind it and a blank: forms, lists, vectors. -/
import Derived.Shelf.Strings.SlTrimAscii
import Derived.Test.YtlibdhnlmekmhaaGreatDoorMh10
import Derived.Test.YtlibdhnlmekmhaaGreatDoorMh23
import Derived.Test.YtlibdhnlmekmhaaGreatDoorMh25
/- The contracts of numeral, integer, intern, token. -/
section
namespace Go.Proofs.YtlibdhnlmekmhaaGreatDoor.Rd
set_option maxRecDepth 100000
open Go.RowKit Go.Lib
open Go.Proofs.YtlibdhnlmekmhaaGreatDoor.Own Go.Proofs.YtlibdhnlmekmhaaGreatDoor.Hp Go.Proofs.YtlibdhnlmekmhaaGreatDoor.Rep Go.Proofs.YtlibdhnlmekmhaaGreatDoor.Get Go.Proofs.YtlibdhnlmekmhaaGreatDoor.Utf

theorem trim_any (s : ByteArray) (hs : s.size ≤ 4000000) (w : World) :
    Calls Tryz.prog 203 #[.string s, .string ⟨#[48, 49, 50, 51, 52, 53, 54, 55, 56, 57]⟩] w fun e w' => e = .returned (.string ⟨(trimS s.data.toList digitsB).toArray⟩) ∧ Below w.heap.size w w' :=
  Any.strings_Trim_laid Tryz.lays160 (by kernel_rfl) s ⟨#[48, 49, 50, 51, 52, 53, 54, 55, 56, 57]⟩ w (by omega) (by decide) (ascii_of_all (by decide))
/-- What is trimmed away. -/
theorem trim_all {s : ByteArray} (h : s.data.toList.all (digitsB.contains ·) = true) : (⟨(trimS s.data.toList digitsB).toArray⟩ : ByteArray).toList.isEmpty = true := by
  rw [toList_data]
  simp [(trimS_nil s.data.toList digitsB).2 h]
theorem trim_some {s : ByteArray} (h : s.data.toList.all (digitsB.contains ·) = false) : (⟨(trimS s.data.toList digitsB).toArray⟩ : ByteArray).toList.isEmpty = false := by
  rw [toList_data]
  cases hh : trimS s.data.toList digitsB with
  | nil => rw [(trimS_nil _ _).1 hh] at h; cases h
  | cons b l => simp
theorem numeral_rest (s T : ByteArray) (hs : s.size ≤ 4000000) (h0 : 0 < s.size) (B : Bool) (hB : B = (!T.data.toList.isEmpty && T.data.toList.all (digitsB.contains ·)))
    (h1 : ((s[0].toNat = 43 ∨ s[0].toNat = 45) ∧ T = s.extract 1 s.size) ∨ (s[0].toNat ≠ 43 ∧ s[0].toNat ≠ 45 ∧ T = s)) (w : World) :
    Calls Tryz.prog 178 #[.string s] w fun e w' => e = .returned (.bool B) ∧ Below w.heap.size w w' := by
  have hTs : T.size ≤ 4000000 := by
    rcases h1 with ⟨_, rfl⟩ | ⟨_, _, rfl⟩
    · rw [ByteArray.size_extract]; omega
    · exact hs
  have HT := Lib.hid (trim_any T hTs)
  have h9 : T.toList = T.data.toList := toList_data T
  cases he : T.data.toList.isEmpty with
  | true =>
    rw [he] at hB
    have hB2 : B = false := by rw [hB]; rfl
    subst hB2
    have h2 : T.toList.isEmpty = true := by rw [h9]; exact he
    have h3 : T.toList = [] := by simpa using h2
    have HZ := Lib.hid (show T.size = 0 by rw [Lib.size_eq, List.isEmpty_iff.1 he]; rfl)
    clear hB he h9 HT hTs
    rcases h1 with ⟨k | k, rfl⟩ | ⟨k1, k2, rfl⟩
    · go_enter Tryz.func178, Tryz.ntmps178
      go_wp2_with fail
      go_ret
      exact ⟨rfl, Below.refl _ _⟩
    · go_enter Tryz.func178, Tryz.ntmps178
      go_wp2_with fail
      go_ret
      exact ⟨rfl, Below.refl _ _⟩
    · have := HZ.out
      omega
  | false =>
    rw [he] at hB
    have h2 : T.toList.isEmpty = false := by rw [h9]; exact he
    have h2' : (!T.toList.isEmpty) = true := by rw [h2]; rfl
    obtain ⟨U, hU⟩ : ∃ U : ByteArray, (⟨(trimS T.data.toList digitsB).toArray⟩ : ByteArray) = U := ⟨_, rfl⟩
    rw [hU] at HT
    have hUB : U.toList.isEmpty = B := by
      rw [← hU, hB]
      cases ha : T.data.toList.all (digitsB.contains ·) with
      | true => rw [trim_all ha]; rfl
      | false => rw [trim_some ha]; rfl
    clear hB he h9 hU hTs
    rcases h1 with ⟨k | k, rfl⟩ | ⟨k1, k2, rfl⟩
    · go_enter Tryz.func178, Tryz.ntmps178
      go_wp2_with (go_at_call 203; refine (HT.out _).mono ?_; rintro e w' ⟨rfl, hb⟩)
      all_goals (go_ret; exact ⟨by simp_all, hb⟩)
    · go_enter Tryz.func178, Tryz.ntmps178
      go_wp2_with (go_at_call 203; refine (HT.out _).mono ?_; rintro e w' ⟨rfl, hb⟩)
      all_goals (go_ret; exact ⟨by simp_all, hb⟩)
    · have n1 : (T[0].toNat == 43) = false := by simpa using k1
      have n2 : (T[0].toNat == 45) = false := by simpa using k2
      have n3 : ((T[0].toNat : Int) == 43) = false := by simp; omega
      have n4 : ((T[0].toNat : Int) == 45) = false := by simp; omega
      clear k1 k2
      go_enter Tryz.func178, Tryz.ntmps178
      go_wp2_with (go_at_call 203; refine (HT.out _).mono ?_; rintro e w' ⟨rfl, hb⟩)
      all_goals (go_ret; exact ⟨by simp_all, hb⟩)
theorem strOf_size (l : List UInt8) : (strOf l).size = l.length := by rw [Lib.size_eq, strOf_list]
theorem enc_len4 : ∀ (R : List Int), (enc R).length ≤ 4 * R.length
  | [] => by simp [enc]
  | c :: R => by
    have := enc_len4 R
    have := (encode_length c).2
    rw [enc_cons, List.length_append, List.length_cons]
    omega
theorem strOf_zero {b : UInt8} {t : List UInt8} (h : 0 < (strOf (b :: t)).size) : (strOf (b :: t))[0] = b := rfl
theorem strOf_tail (b : UInt8) (t : List UInt8) : (strOf (b :: t)).extract 1 (strOf (b :: t)).size = strOf t := by
  rw [extract_from, strOf_list]
  rfl
/-- numeral, at the bytes of a token's characters. -/
theorem numeral_any (acc : List Int) (hne : acc ≠ []) (hc : ∀ c ∈ acc, isC c) (hl : acc.length ≤ 1000000) (w : World) :
    Calls Tryz.prog 178 #[.string (strOf (enc acc))] w fun e w' => e = .returned (.bool (numB acc)) ∧ Below w.heap.size w w' := by
  cases acc with
  | nil => exact absurd rfl hne
  | cons c r =>
    have hcc := hc c (by simp)
    have hcr : ∀ x ∈ r, isC x := fun x hx => hc x (List.mem_cons_of_mem _ hx)
    obtain ⟨b, t, he, hb⟩ := enc_head hcc r
    have hlen := enc_len4 (c :: r)
    have hsz : (strOf (enc (c :: r))).size ≤ 4000000 := by rw [strOf_size]; omega
    rw [he] at hsz ⊢
    have h0 : 0 < (strOf (b :: t)).size := by rw [strOf_size]; simp
    by_cases hs : c = 43 ∨ c = 45
    · rcases hb with ⟨_, hb, ht⟩ | ⟨hb, _⟩
      · refine numeral_rest _ (strOf t) hsz h0 _ ?_ (.inl ⟨?_, (strOf_tail b t).symm⟩) w
        · rw [strOf_list, ht, all_digits r hcr]
          unfold numB
          rw [show unsign (c :: r) = r by simp only [unsign]; rw [if_pos hs]]
          congr 2
          cases r with
          | nil => rfl
          | cons d r => rw [enc_cons]; cases hd : encodeRune d ++ enc r with
            | nil => exact absurd hd (encode_ne d _)
            | cons _ _ => rfl
        · rw [strOf_zero h0, hb, low_byte hcc.1 (by omega)]
          omega
      · omega
    · refine numeral_rest _ (strOf (b :: t)) hsz h0 _ ?_ (.inr ⟨?_, ?_, rfl⟩) w
      · rw [strOf_list, ← he, all_digits (c :: r) hc]
        unfold numB
        rw [show unsign (c :: r) = c :: r by simp only [unsign]; rw [if_neg hs], he]
        rfl
      · rw [strOf_zero h0]
        rcases hb with ⟨_, hb, _⟩ | ⟨_, hb⟩
        · rw [hb, low_byte hcc.1 (by omega)]; have := hcc.1; omega
        · omega
      · rw [strOf_zero h0]
        rcases hb with ⟨_, hb, _⟩ | ⟨_, hb⟩
        · rw [hb, low_byte hcc.1 (by omega)]; have := hcc.1; omega
        · omega
/-- How integer ends. -/
def intE (acc : List Int) (k : Nat) : Ending := if -2305843009213693952 ≤ intV acc ∧ intV acc ≤ 2305843009213693951 then .returned (wd (0, intV acc)) else faultE 15 k
theorem bytes_below {w w' : World} {t5 : TypeId} (h : w' = w ∨ ∃ t, w' = Lib.bytesWorld w t5 t) : Below w.heap.size w w' := by
  rcases h with rfl | ⟨t, rfl⟩
  · exact Below.refl _ _
  · exact Lib.bytesWorld_below _ _ _
/-- integer, at a numeral. -/
theorem integer_any (acc : List Int) (hn : numB acc = true) (hc : ∀ c ∈ acc, isC c) (hl : acc.length ≤ 1000000) (k : Nat) (w : World) (hE : ErrVar w) :
    Calls Tryz.prog 179 #[.string (strOf (enc acc)), .int .i64 (k : Int)] w fun e w' => e = intE acc k ∧ Below w.heap.size w w' := by
  have hlen := enc_len4 acc
  have hsz : (strOf (enc acc)).size ≤ 4000000 := by rw [strOf_size]; omega
  have hA := atoi_num hc hn
  rw [← strOf_list (enc acc)] at hA
  unfold intE
  generalize strOf (enc acc) = s at *
  obtain ⟨v, hv⟩ : ∃ v, intV acc = v := ⟨_, rfl⟩
  rw [hv] at hA ⊢
  have hW1 : Below w.heap.size w (w.alloc (.cells #[.int .i64 0, .int .i64 0] 28)) := (Below.refl _ _).alloc (Nat.le_refl _) _
  rcases hA with hA | ⟨hA, hr⟩
  · have HA := Lib.hid (fun w => (Tryz.strconv_Atoi_ok s (by omega) v hA w).mono (R' := fun e w' => e = .returned (.tuple #[.int .i64 v, .nilIface]) ∧ Below w.heap.size w w') fun e w' ⟨he, hw⟩ => ⟨he, bytes_below hw⟩)
    have HW := Lib.hid hW1
    clear hA hn hv hlen hW1 hc hl hE
    by_cases hin : -2305843009213693952 ≤ v ∧ v ≤ 2305843009213693951
    · rw [if_pos hin]
      have n1 : ¬ v < -2305843009213693952 := by omega
      have n2 : ¬ 2305843009213693951 < v := by omega
      clear hin
      go_enter Tryz.func179, Tryz.ntmps179
      go_wp2_with (go_at_call 204; refine (HA.out _).mono ?_; rintro e w1 ⟨rfl, hw⟩; have HB := Lib.hid hw; have hB := one_new hw; obtain ⟨b0, b1, e0, e1⟩ := hB.two; clear hB hw)
      refine bodyPost_ret (v := wd (0, v)) (by simp [results, Tryz.results179, go_sem, b0, b1]) rfl ⟨rfl, ?_⟩
      exact ((HW.out.trans (HB.out.mono HW.out.size)).setCell (by simp) _).setCell (by simp) _
    · rw [if_neg hin]
      have HI := Lib.hid hin
      clear hin
      unfold faultE
      go_enter Tryz.func179, Tryz.ntmps179
      go_wp2_with (go_at_call 204; refine (HA.out _).mono ?_; rintro e w1 ⟨rfl, hw⟩; have HB := Lib.hid hw; have hB := one_new hw; obtain ⟨b0, b1, e0, e1⟩ := hB.two; clear hB hw)
      all_goals first
        | exact ⟨rfl, rfl, HW.out.trans (HB.out.mono HW.out.size)⟩
        | (exfalso; exact HI.out (by omega))
  · rw [if_neg hr]
    obtain ⟨ev, hev, hev2⟩ := hE.below hW1
    have HA := Lib.hid ((Tryz.strconv_Atoi_range s (by omega) hA ev _ hev hev2).mono (R' := fun e w' => ∃ N, e = .returned (.tuple #[.int .i64 (Lib.atoiSat s.data.toList), .iface 244 (.pointer (some ⟨N, 0, none⟩))]) ∧ Below (w.alloc (.cells #[.int .i64 0, .int .i64 0] 28)).heap.size (w.alloc (.cells #[.int .i64 0, .int .i64 0] 28)) w') fun e w' ⟨N, he, _, _, h3⟩ => ⟨N, he, h3⟩)
    have HW := Lib.hid hW1
    generalize Lib.atoiSat s.data.toList = sat at *
    clear hA hn hv hlen hW1 hc hl hE hev hev2 hr
    unfold faultE
    go_enter Tryz.func179, Tryz.ntmps179
    go_wp2_with (go_at_call 204; refine HA.out.mono ?_; rintro e w1 ⟨N, rfl, hw⟩; have HB := Lib.hid hw; clear hw)
    all_goals exact ⟨rfl, rfl, HW.out.trans (HB.out.mono HW.out.size)⟩
end Go.Proofs.YtlibdhnlmekmhaaGreatDoor.Rd
end

/- A form does not depend on what stands behind it and a blank. -/
section
namespace Go.Proofs.YtlibdhnlmekmhaaGreatDoor.Rd
open Go.RowKit
open Go.Proofs.YtlibdhnlmekmhaaGreatDoor.Hp Go.Proofs.YtlibdhnlmekmhaaGreatDoor.Add Go.Proofs.YtlibdhnlmekmhaaGreatDoor.Make Go.Proofs.YtlibdhnlmekmhaaGreatDoor.Utf Go.Proofs.YtlibdhnlmekmhaaGreatDoor.Chars
open Go.Proofs.YtlibdhnlmekmhaaGreatDoor.Nt hiding Wd

/-- l2 begins with a blank, or as l1 does. -/
def Same1 (l1 l2 : List Int) : Prop := (∃ r, l2 = 32 :: r) ∨ ∃ c r1 r2, l1 = c :: r1 ∧ l2 = c :: r2
theorem Same1.ends {l1 l2 : List Int} (h : Same1 l1 l2) (he : endsB l1 = true) : endsB l2 = true := by
  rcases h with ⟨r, rfl⟩ | ⟨c, r1, r2, rfl, rfl⟩
  · rfl
  · exact he
theorem Same1.of_ne {v l1 l2 : List Int} (h : v ≠ []) : Same1 (v ++ l1) (v ++ l2) := by
  cases v with
  | nil => exact absurd rfl h
  | cons c v => exact .inr ⟨c, _, _, rfl, rfl⟩
theorem Lt.split {a b : List Int} (h : Lt a b) : ∃ v, v ≠ [] ∧ a = v ++ b := by
  obtain ⟨⟨v, hv⟩, hl⟩ := h
  refine ⟨v, ?_, hv.symm⟩
  rintro rfl
  rw [← hv] at hl
  simp at hl
theorem no_suf {c : Int} {r l : List Int} (h : (c :: r) <:+ r) : False := by
  have := h.length_le
  simp at this
  omega
theorem no_suf2 {c : Int} {u l : List Int} (h : c :: (u ++ l) = l) : False := by
  have := congrArg List.length h
  simp at this
  omega
theorem app_nil {u l : List Int} (h : u ++ l = l) : u = [] := by
  have := congrArg List.length h
  simp at this
  exact this

theorem skipF_ext : ∀ (u : List Int) (b : Bool) (v l1 l2 : List Int), v ≠ [] → skipF b (u ++ l1) = v ++ l1 → skipF b (u ++ l2) = v ++ l2
  | [], b, v, l1, l2, hv, h => by
    have := (skipF_suf l1 b).length_le
    rw [show skipF b l1 = v ++ l1 from h] at this
    have : 0 < v.length := List.length_pos_iff.2 hv
    simp at *
    omega
  | c :: u, b, v, l1, l2, hv, h => by
    rw [List.cons_append] at h ⊢
    cases b
    · rw [skipF] at h ⊢
      split
      · rename_i e
        rw [if_pos e] at h
        exact skipF_ext u true v l1 l2 hv h
      · rename_i e
        rw [if_neg e] at h
        split
        · rename_i e2
          rw [if_pos e2] at h
          exact skipF_ext u false v l1 l2 hv h
        · rename_i e2
          rw [if_neg e2] at h
          have : c :: u = v := List.append_cancel_right (bs := l1) h
          rw [← this]
          rfl
    · rw [skipF] at h ⊢
      split
      · rename_i e
        rw [if_pos e] at h
        exact skipF_ext u false v l1 l2 hv h
      · rename_i e
        rw [if_neg e] at h
        exact skipF_ext u true v l1 l2 hv h

theorem tokF_ext : ∀ (u : List Int) (b : Bool) (acc : List Int) (pl : Bool) (a : List Int) (p : Bool) (l1 l2 : List Int), Same1 l1 l2 → tokF b acc pl (u ++ l1) = some (a, p, l1) → tokF b acc pl (u ++ l2) = some (a, p, l2)
  | [], b, acc, pl, a, p, l1, l2, hs, h => by
    rw [List.nil_append] at h ⊢
    cases l1 with
    | nil =>
      rcases hs with ⟨r, rfl⟩ | ⟨c, r1, r2, e, _⟩
      · cases b
        · rw [tokF] at h
          cases h
          rfl
        · rw [tokF] at h; cases h
      · cases e
    | cons c r =>
      cases b
      · rw [tokF] at h
        split at h
        · rename_i hd
          cases h
          rcases hs with ⟨r, rfl⟩ | ⟨c', r1, r2, e, rfl⟩
          · rfl
          · cases e
            rw [tokF, if_pos hd]
        · split at h
          · exact (no_suf (l := []) (tokF_suf _ _ _ _ _ _ _ h)).elim
          · exact (no_suf (l := []) (tokF_suf _ _ _ _ _ _ _ h)).elim
      · rw [tokF] at h
        exact (no_suf (l := []) (tokF_suf _ _ _ _ _ _ _ h)).elim
  | c :: u, b, acc, pl, a, p, l1, l2, hs, h => by
    rw [List.cons_append] at h ⊢
    cases b
    · rw [tokF] at h ⊢
      split
      · rename_i hd
        rw [if_pos hd] at h
        simp only [Option.some.injEq, Prod.mk.injEq] at h
        exact (no_suf2 h.2.2).elim
      · rename_i hd
        rw [if_neg hd] at h
        split
        · rename_i e
          rw [if_pos e] at h
          exact tokF_ext u true acc false a p l1 l2 hs h
        · rename_i e
          rw [if_neg e] at h
          exact tokF_ext u false _ pl a p l1 l2 hs h
    · rw [tokF] at h ⊢
      exact tokF_ext u false _ false a p l1 l2 hs h
theorem hexF_ext (st st' : Nat) : ∀ (u : List Int) (k : Nat) (n x : Int) (l1 l2 : List Int), hexF st k n (u ++ l1) = .ok x l1 → hexF st' k n (u ++ l2) = .ok x l2
  | [], k, n, x, l1, l2, h => by
    rw [List.nil_append] at h
    cases l1 with
    | nil => rw [hexF] at h; cases h
    | cons c r =>
      rw [hexF] at h
      split at h
      · exact (no_suf (l := []) (hexF_suf _ _ _ _ _ _ h)).elim
      · split at h
        · cases h
        · simp only [Sc.ok.injEq] at h
          exact (no_suf2 (u := []) h.2.symm).elim
  | c :: u, k, n, x, l1, l2, h => by
    rw [List.cons_append] at h ⊢
    rw [hexF] at h ⊢
    split
    · rename_i e
      rw [if_pos e] at h
      exact hexF_ext st st' u _ _ x l1 l2 h
    · rename_i e
      rw [if_neg e] at h
      split
      · rename_i e2
        rw [if_pos e2] at h
        cases h
      · rename_i e2
        rw [if_neg e2] at h
        simp only [Sc.ok.injEq] at h ⊢
        rw [app_nil h.2]
        exact ⟨h.1, rfl⟩
theorem escF_lt {l : List Int} {o : Option Int} {r : List Int} (h : escF l = .ok o r) : Lt l r := by
  cases l with
  | nil => rw [escF] at h; cases h
  | cons d l =>
    refine ⟨escF_suf h, ?_⟩
    rw [escF] at h
    have : r <:+ l := by
      split at h
      · cases h; exact List.suffix_refl _
      · split at h
        · cases h; exact List.suffix_refl _
        · split at h
          · split at h
            · rename_i n r' he
              cases h
              exact hexF_suf _ _ _ _ _ _ he
            · cases h
          · split at h
            · cases h; exact List.suffix_refl _
            · cases h
    have := this.length_le
    simp
    omega
theorem escF_ext {u l1 l2 : List Int} {o : Option Int} (h : escF (u ++ l1) = .ok o l1) : escF (u ++ l2) = .ok o l2 := by
  cases u with
  | nil =>
    have := (escF_lt h).2
    simp at this
  | cons d u =>
    rw [List.cons_append] at h ⊢
    rw [escF] at h ⊢
    split
    · rename_i e
      rw [if_pos e] at h
      simp only [Sc.ok.injEq] at h ⊢
      rw [app_nil h.2]
      exact ⟨h.1, rfl⟩
    · rename_i e
      rw [if_neg e] at h
      split
      · rename_i e2
        rw [if_pos e2] at h
        simp only [Sc.ok.injEq] at h ⊢
        rw [app_nil h.2]
        exact ⟨h.1, rfl⟩
      · rename_i e2
        rw [if_neg e2] at h
        split
        · rename_i e3
          rw [if_pos e3] at h
          cases hx : hexF ((u ++ l1).length + 2) 0 0 (u ++ l1) with
          | ok n r =>
            rw [hx] at h
            simp only [Sc.ok.injEq] at h
            obtain ⟨h1, rfl⟩ := h
            rw [hexF_ext _ _ u 0 0 n r l2 hx]
            simp [h1]
          | bad m => rw [hx] at h; cases h
        · rename_i e3
          rw [if_neg e3] at h
          cases hc : ctlZ d with
          | some k =>
            rw [hc] at h
            simp only [Sc.ok.injEq] at h ⊢
            rw [app_nil h.2]
            exact ⟨h.1, rfl⟩
          | none => rw [hc] at h; cases h
theorem strF_ext : ∀ (k : Nat) (u acc a l1 l2 : List Int) (j : Nat), u.length ≤ j → strF k acc (u ++ l1) = .ok a l1 → strF j acc (u ++ l2) = .ok a l2
  | 0, u, acc, a, l1, l2, j, hj, h => by rw [strF] at h; cases h
  | k + 1, [], acc, a, l1, l2, j, hj, h => by
    rw [List.nil_append] at h
    cases l1 with
    | nil => rw [strF] at h; cases h
    | cons c r =>
      exfalso
      rw [strF] at h
      split at h
      · simp only [Sc.ok.injEq] at h
        exact no_suf2 (u := []) h.2.symm
      · split at h
        · split at h
          · rename_i o r' he
            exact no_suf (l := []) ((strF_suf _ _ _ _ _ h).trans (escF_suf he))
          · cases h
        · exact no_suf (l := []) (strF_suf _ _ _ _ _ h)
  | k + 1, c :: u, acc, a, l1, l2, j, hj, h => by
    obtain ⟨j, rfl⟩ : ∃ i, j = i + 1 := ⟨j - 1, by simp at hj; omega⟩
    have hj' : u.length ≤ j := by simpa using hj
    rw [List.cons_append] at h ⊢
    rw [strF] at h ⊢
    split
    · rename_i e
      rw [if_pos e] at h
      simp only [Sc.ok.injEq] at h ⊢
      rw [app_nil h.2]
      exact ⟨h.1, rfl⟩
    · rename_i e
      rw [if_neg e] at h
      split
      · rename_i e2
        rw [if_pos e2] at h
        cases hx : escF (u ++ l1) with
        | ok o r' =>
          rw [hx] at h
          obtain ⟨v, rfl⟩ := strF_suf _ _ _ _ _ h
          obtain ⟨t, ht⟩ := escF_suf hx
          have hu : u = t ++ v := List.append_cancel_right (bs := l1) (by rw [List.append_assoc]; exact ht.symm)
          subst hu
          rw [List.append_assoc] at hx ⊢
          rw [escF_ext hx (l2 := v ++ l2)]
          exact strF_ext k v _ a l1 l2 j (by simp at hj'; omega) h
        | bad m => rw [hx] at h; cases h
      · rename_i e2
        rw [if_neg e2] at h
        exact strF_ext k u _ a l1 l2 j hj' h
theorem cescF_lt {l : List Int} {o : Int ⊕ Int} {r : List Int} (h : cescF l = .ok o r) : Lt l r := by
  cases l with
  | nil => rw [cescF] at h; cases h
  | cons d l =>
    refine ⟨cescF_suf h, ?_⟩
    have : r <:+ l := by
      rw [cescF] at h
      split at h
      · exact (minusF_suf h).1
      · split at h
        · cases h; exact List.suffix_refl _
        · split at h
          · cases h; exact List.suffix_refl _
          · split at h
            · split at h
              · cases h; exact List.suffix_refl _
              · cases h
            · cases h; exact List.suffix_refl _
    have := this.length_le
    simp
    omega
theorem cescF_ext {u l1 l2 : List Int} {o : Int ⊕ Int} (h : cescF (u ++ l1) = .ok o l1) : cescF (u ++ l2) = .ok o l2 := by
  cases u with
  | nil =>
    have := (cescF_lt h).2
    simp at this
  | cons d u =>
    rw [List.cons_append] at h ⊢
    rw [cescF] at h ⊢
    split
    · rename_i e
      rw [if_pos e] at h
      cases u with
      | nil =>
        have := (minusF_suf h).2
        simp at this
      | cons c u =>
        rw [List.cons_append] at h ⊢
        rw [minusF] at h ⊢
        split
        · rename_i e2
          rw [if_pos e2] at h
          simp only [Sc.ok.injEq] at h ⊢
          rw [app_nil h.2]
          exact ⟨h.1, rfl⟩
        · rename_i e2
          rw [if_neg e2] at h
          cases h
    · rename_i e
      rw [if_neg e] at h
      split
      · rename_i e2
        rw [if_pos e2] at h
        simp only [Sc.ok.injEq] at h ⊢
        rw [app_nil h.2]
        exact ⟨h.1, rfl⟩
      · rename_i e2
        rw [if_neg e2] at h
        split
        · rename_i e3
          rw [if_pos e3] at h
          simp only [Sc.ok.injEq] at h ⊢
          rw [app_nil h.2]
          exact ⟨h.1, rfl⟩
        · rename_i e3
          rw [if_neg e3] at h
          split
          · rename_i e4
            rw [if_pos e4] at h
            cases hc : ctlZ d with
            | some k =>
              rw [hc] at h
              simp only [Sc.ok.injEq] at h ⊢
              rw [app_nil h.2]
              exact ⟨h.1, rfl⟩
            | none => rw [hc] at h; cases h
          · rename_i e4
            rw [if_neg e4] at h
            simp only [Sc.ok.injEq] at h ⊢
            rw [app_nil h.2]
            exact ⟨h.1, rfl⟩
theorem chrF_ext : ∀ (k : Nat) (u : List Int) (m : Int) (a : Int × Int) (l1 l2 : List Int) (j : Nat), u.length ≤ j → chrF k m (u ++ l1) = .ok a l1 → chrF j m (u ++ l2) = .ok a l2
  | 0, u, m, a, l1, l2, j, hj, h => by rw [chrF] at h; cases h
  | k + 1, [], m, a, l1, l2, j, hj, h => by
    rw [List.nil_append] at h
    cases l1 with
    | nil => rw [chrF] at h; cases h
    | cons c r =>
      exfalso
      rw [chrF] at h
      split at h
      · split at h
        · rename_i y r' he
          simp only [Sc.ok.injEq] at h
          have := cescF_suf he
          rw [h.2] at this
          exact no_suf (l := []) this
        · rename_i b r' he
          exact no_suf (l := []) ((chrF_suf _ _ _ _ _ h).trans (cescF_suf he))
        · cases h
      · simp only [Sc.ok.injEq] at h
        exact no_suf2 (u := []) h.2.symm
  | k + 1, c :: u, m, a, l1, l2, j, hj, h => by
    obtain ⟨j, rfl⟩ : ∃ i, j = i + 1 := ⟨j - 1, by simp at hj; omega⟩
    have hj' : u.length ≤ j := by simpa using hj
    rw [List.cons_append] at h ⊢
    rw [chrF] at h ⊢
    split
    · rename_i e
      rw [if_pos e] at h
      cases hx : cescF (u ++ l1) with
      | ok o r' =>
        rw [hx] at h
        cases o with
        | inl y =>
          simp only [Sc.ok.injEq] at h
          obtain ⟨h1, rfl⟩ := h
          rw [cescF_ext hx (l2 := l2)]
          simp only
          rw [h1]
        | inr b =>
          simp only at h
          obtain ⟨v, rfl⟩ := chrF_suf _ _ _ _ _ h
          obtain ⟨t, ht⟩ := cescF_suf hx
          have hu : u = t ++ v := List.append_cancel_right (bs := l1) (by rw [List.append_assoc]; exact ht.symm)
          subst hu
          rw [List.append_assoc] at hx ⊢
          rw [cescF_ext hx (l2 := v ++ l2)]
          exact chrF_ext k v _ a l1 l2 j (by simp at hj'; omega) h
      | bad m => rw [hx] at h; cases h
    · rename_i e
      rw [if_neg e] at h
      simp only [Sc.ok.injEq] at h ⊢
      rw [app_nil h.2]
      exact ⟨h.1, rfl⟩
end Go.Proofs.YtlibdhnlmekmhaaGreatDoor.Rd
end

/- A form does not depend on what stands behind it and a blank: forms, lists, vectors. -/
section
namespace Go.Proofs.YtlibdhnlmekmhaaGreatDoor.Rd
open Go.RowKit
open Go.Proofs.YtlibdhnlmekmhaaGreatDoor.Hp Go.Proofs.YtlibdhnlmekmhaaGreatDoor.Add Go.Proofs.YtlibdhnlmekmhaaGreatDoor.Make Go.Proofs.YtlibdhnlmekmhaaGreatDoor.Utf Go.Proofs.YtlibdhnlmekmhaaGreatDoor.Chars
open Go.Proofs.YtlibdhnlmekmhaaGreatDoor.Nt hiding Wd

theorem symG_ext {R1 R2 acc r l1 l2 : List Int} {ob ob' : Obs} {tb tb' : Tb} {x : Wd} (h : symG ⟨R1, ob, tb⟩ acc r = .ok x ⟨l1, ob', tb'⟩) : r = l1 ∧ symG ⟨R2, ob, tb⟩ acc l2 = .ok x ⟨l2, ob', tb'⟩ := by
  unfold symG at h ⊢
  split at h
  · rename_i e
    simp only [Res.ok.injEq, St.mk.injEq] at h
    simp only at e ⊢
    rw [if_pos e]
    exact ⟨h.2.1, by simp [h.1, h.2.2.1, h.2.2.2]⟩
  · cases h
theorem intG_ext {R1 R2 acc r l1 l2 : List Int} {ob ob' : Obs} {tb tb' : Tb} {x : Wd} (h : intG ⟨R1, ob, tb⟩ acc r = .ok x ⟨l1, ob', tb'⟩) : r = l1 ∧ intG ⟨R2, ob, tb⟩ acc l2 = .ok x ⟨l2, ob', tb'⟩ := by
  unfold intG at h ⊢
  split at h
  · rename_i e
    simp only [Res.ok.injEq, St.mk.injEq] at h
    rw [if_pos e]
    exact ⟨h.2.1, by simp [h.1, h.2.2.1, h.2.2.2]⟩
  · cases h
theorem tokenG_ext {u l1 l2 : List Int} {ob ob' : Obs} {tb tb' : Tb} {x : Wd} (h : tokenG ⟨u ++ l1, ob, tb⟩ = .ok x ⟨l1, ob', tb'⟩) (hs : Same1 l1 l2) : tokenG ⟨u ++ l2, ob, tb⟩ = .ok x ⟨l2, ob', tb'⟩ := by
  unfold tokenG at h ⊢
  simp only at h ⊢
  cases ht : tokF false [] true (u ++ l1) with
  | none => rw [ht] at h; cases h
  | some q =>
    obtain ⟨acc, pl, r⟩ := q
    rw [ht] at h
    simp only at h
    split at h
    · cases h
    · rename_i e1
      split at h
      · rename_i e2
        obtain ⟨rfl, h2⟩ := intG_ext (R2 := u ++ l2) (l2 := l2) h
        rw [tokF_ext u false [] true acc pl r l2 hs ht]
        simp only
        rw [if_neg e1, if_pos e2]
        exact h2
      · rename_i e2
        obtain ⟨rfl, h2⟩ := symG_ext (R2 := u ++ l2) (l2 := l2) h
        rw [tokF_ext u false [] true acc pl r l2 hs ht]
        simp only
        rw [if_neg e1, if_neg e2]
        exact h2
theorem textG_ext {lim : Nat} {c : Int} {u l1 l2 : List Int} {ob ob' : Obs} {tb tb' : Tb} {x : Wd} (h : textG lim ⟨c :: u ++ l1, ob, tb⟩ = .ok x ⟨l1, ob', tb'⟩) : textG lim ⟨c :: u ++ l2, ob, tb⟩ = .ok x ⟨l2, ob', tb'⟩ := by
  unfold textG at h ⊢
  simp only [List.cons_append, List.tail_cons] at h ⊢
  cases ht : strF (c :: (u ++ l1)).length [] (u ++ l1) with
  | bad m => rw [ht] at h; cases h
  | ok acc r =>
    rw [ht] at h
    simp only at h
    split at h
    · rename_i e
      simp only [Res.ok.injEq, St.mk.injEq] at h
      obtain ⟨h1, rfl, h3, h4⟩ := h
      rw [strF_ext _ u [] acc r l2 (c :: (u ++ l2)).length (by simp; omega) ht]
      simp only
      rw [if_pos e]
      simp [h1, h3, h4]
    · cases h
theorem charG_ext {c : Int} {u l1 l2 : List Int} {ob ob' : Obs} {tb tb' : Tb} {x : Wd} (h : charG ⟨c :: u ++ l1, ob, tb⟩ = .ok x ⟨l1, ob', tb'⟩) (hs : Same1 l1 l2) : charG ⟨c :: u ++ l2, ob, tb⟩ = .ok x ⟨l2, ob', tb'⟩ := by
  unfold charG at h ⊢
  simp only [List.cons_append, List.tail_cons] at h ⊢
  cases ht : chrF (c :: (u ++ l1)).length 0 (u ++ l1) with
  | bad m => rw [ht] at h; cases h
  | ok y r =>
    obtain ⟨z, m⟩ := y
    rw [ht] at h
    simp only at h
    split at h
    · rename_i e
      simp only [Res.ok.injEq, St.mk.injEq] at h
      obtain ⟨h1, rfl, h3, h4⟩ := h
      rw [chrF_ext _ u 0 (z, m) r l2 (c :: (u ++ l2)).length (by simp; omega) ht]
      simp only
      rw [if_pos (hs.ends e)]
      simp [h1, h3, h4]
    · cases h
theorem consG_ext {lim : Nat} {s t : St} {r1 r2 l1 : List Int} {ob ob' : Obs} {tb tb' : Tb} {x y z : Wd} (h : consG lim s ⟨r1, ob, tb⟩ x y = .ok z ⟨l1, ob', tb'⟩) : r1 = l1 ∧ consG lim t ⟨r2, ob, tb⟩ x y = .ok z ⟨r2, ob', tb'⟩ := by
  unfold consG at h ⊢
  split at h
  · rename_i e
    simp only [Res.ok.injEq, St.mk.injEq] at h
    simp only at e ⊢
    rw [if_pos e]
    exact ⟨h.2.1, by simp [h.1, h.2.2.1, h.2.2.2]⟩
  · cases h

/-- A reader of which the end is not seen behind a blank, or not at all. -/
def Ext {α : Type} (F : St → Res α) : Prop := ∀ u l1 l2 ob tb x ob' tb', Same1 l1 l2 → F ⟨u ++ l1, ob, tb⟩ = .ok x ⟨l1, ob', tb'⟩ → F ⟨u ++ l2, ob, tb⟩ = .ok x ⟨l2, ob', tb'⟩
def ExtA {α : Type} (F : St → Res α) : Prop := ∀ u l1 l2 ob tb x ob' tb', F ⟨u ++ l1, ob, tb⟩ = .ok x ⟨l1, ob', tb'⟩ → F ⟨u ++ l2, ob, tb⟩ = .ok x ⟨l2, ob', tb'⟩

theorem listG_ext {lim : Nat} {E : St → Res (List Wd × Wd)} {o : Nat} {c : Int} {u l1 l2 : List Int} {ob ob' : Obs} {tb tb' : Tb} {x : Wd} (hE : ExtA E) (h : listG lim E o ⟨c :: u ++ l1, ob, tb⟩ = .ok x ⟨l1, ob', tb'⟩) : listG lim E o ⟨c :: u ++ l2, ob, tb⟩ = .ok x ⟨l2, ob', tb'⟩ := by
  unfold listG at h ⊢
  split at h
  · cases h
  · rename_i ho
    rw [if_neg ho]
    simp only [List.cons_append, List.tail_cons] at h ⊢
    cases hx : E ⟨u ++ l1, ob, tb⟩ with
    | err c m ob tb => rw [hx] at h; cases h
    | ok y s2 =>
      obtain ⟨l, w⟩ := y
      obtain ⟨r, ob2, tb2⟩ := s2
      rw [hx] at h
      simp only at h
      split at h
      · rename_i e
        simp only [Res.ok.injEq, St.mk.injEq] at h
        obtain ⟨h1, rfl, h3, h4⟩ := h
        rw [hE u r l2 _ _ _ _ _ hx]
        simp only
        rw [if_pos e]
        simp [h1, h3, h4]
      · cases h
theorem vecG_ext {lim : Nat} {V : St → Res (List Wd)} {o : Nat} {c : Int} {u l1 l2 : List Int} {ob ob' : Obs} {tb tb' : Tb} {x : Wd} (hV : ExtA V) (h : vecG lim V o ⟨c :: u ++ l1, ob, tb⟩ = .ok x ⟨l1, ob', tb'⟩) : vecG lim V o ⟨c :: u ++ l2, ob, tb⟩ = .ok x ⟨l2, ob', tb'⟩ := by
  unfold vecG at h ⊢
  split at h
  · cases h
  · rename_i ho
    rw [if_neg ho]
    simp only [List.cons_append, List.tail_cons] at h ⊢
    cases hx : V ⟨u ++ l1, ob, tb⟩ with
    | err c m ob tb => rw [hx] at h; cases h
    | ok l s2 =>
      obtain ⟨r, ob2, tb2⟩ := s2
      rw [hx] at h
      simp only at h
      split at h
      · rename_i e
        simp only [Res.ok.injEq, St.mk.injEq] at h
        obtain ⟨h1, rfl, h3, h4⟩ := h
        rw [hV u r l2 _ _ _ _ _ hx]
        simp only
        rw [if_pos e]
        simp [h1, h3, h4]
      · cases h
/-- A prefix: a form behind some characters. -/
theorem prefG_ext {lim : Nat} {F : St → Res Wd} {o len : Nat} {n : Int} {u v l1 l2 : List Int} {ob ob' : Obs} {tb tb' : Tb} {x : Wd} (hF : Ext F) (hd1 : (u ++ l1).drop len = v ++ l1) (hd2 : (u ++ l2).drop len = v ++ l2) (hs : Same1 l1 l2)
    (h : prefG lim F o n len ⟨u ++ l1, ob, tb⟩ = .ok x ⟨l1, ob', tb'⟩) : prefG lim F o n len ⟨u ++ l2, ob, tb⟩ = .ok x ⟨l2, ob', tb'⟩ := by
  unfold prefG at h ⊢
  split at h
  · cases h
  · rename_i ho
    rw [if_neg ho]
    simp only [hd1, hd2] at h ⊢
    cases hx : F ⟨v ++ l1, ob, tb⟩ with
    | err c m ob tb => rw [hx] at h; cases h
    | ok y s2 =>
      obtain ⟨r, ob2, tb2⟩ := s2
      rw [hx] at h
      simp only at h
      cases hc : consG lim ⟨u ++ l1, ob, tb⟩ ⟨r, ob2, tb2⟩ y (1, 0) with
      | err c m ob tb => rw [hc] at h; cases h
      | ok z s3 =>
        obtain ⟨r3, ob3, tb3⟩ := s3
        rw [hc] at h
        simp only at h
        obtain ⟨e3, h3⟩ := consG_ext (t := ⟨u ++ l2, ob, tb⟩) (r2 := l2) h
        subst e3
        obtain ⟨e4, h4⟩ := consG_ext (t := ⟨u ++ l2, ob, tb⟩) (r2 := l2) hc
        subst e4
        rw [hF v r l2 _ _ _ _ _ hs hx]
        simp only
        rw [h4]
        exact h3
/-- What a form behind a prefix leaves: there is something between. -/
theorem prefG_more {lim : Nat} {F : St → Res Wd} {o len : Nat} {n : Int} {s : St} {l1 : List Int} {ob' : Obs} {tb' : Tb} {x : Wd} (hF : ∀ s x s', F s = .ok x s' → Lt s.rest s'.rest) (h : prefG lim F o n len s = .ok x ⟨l1, ob', tb'⟩) : Lt (s.rest.drop len) l1 := by
  unfold prefG at h
  split at h
  · cases h
  · split at h
    · rename_i y s2 he
      have hl := hF _ _ _ he
      split at h
      · rename_i z s3 he2
        have e1 := consG_suf h
        have e2 := consG_suf he2
        simp only at e1 hl
        rw [e1, e2]
        exact hl
      · cases h
    · cases h
theorem head_of {v l1 : List Int} (h : v ≠ []) (l2 : List Int) : (v ++ l2).head? = (v ++ l1).head? := by
  cases v with
  | nil => exact absurd rfl h
  | cons c v => rfl
theorem formG_ext {lim : Nat} {F : St → Res Wd} {E : St → Res (List Wd × Wd)} {V : St → Res (List Wd)} {o : Nat} (lF : ∀ s x s', F s = .ok x s' → Lt s.rest s'.rest) (lE : ∀ s x s', E s = .ok x s' → s'.rest <:+ s.rest) (lV : ∀ s x s', V s = .ok x s' → s'.rest <:+ s.rest)
    (hF : Ext F) (hE : ExtA E) (hV : ExtA V) : Ext (formG lim F E V o) := by
  intro u l1 l2 ob tb x ob' tb' hs h
  have hlt := formG_lt lF lE lV h
  unfold formG at h ⊢
  simp only at h hlt ⊢
  cases hk : skipF false (u ++ l1) with
  | nil => rw [hk] at h; cases h
  | cons c r =>
    rw [hk] at h
    simp only at h
    have hsuf := skipF_suf (u ++ l1) false
    obtain ⟨n1, n2⟩ := skipF_head _ _ _ _ hk
    have hlt2 : Lt (c :: r) l1 := by
      have h0 : formG lim F E V o ⟨c :: r, ob, tb⟩ = .ok x ⟨l1, ob', tb'⟩ := by
        unfold formG
        simp only [skipF_stop n1 n2]
        exact h
      exact formG_lt lF lE lV h0
    obtain ⟨v, hv, he⟩ := hlt2.split
    cases v with
    | nil => exact absurd rfl hv
    | cons c' v =>
      rw [List.cons_append] at he
      cases he
      rw [skipF_ext u false (c :: v) l1 l2 hv hk]
      rw [show (c :: v) ++ l2 = c :: (v ++ l2) from rfl]
      simp only
      unfold headG at h ⊢
      split
      · rename_i e
        rw [if_pos e] at h
        exact listG_ext (u := v) hE h
      rename_i e
      rw [if_neg e] at h
      split
      · rename_i e
        rw [if_pos e] at h
        cases h
      rename_i e
      rw [if_neg e] at h
      split
      · rename_i e
        rw [if_pos e] at h
        exact vecG_ext (u := v) hV h
      rename_i e
      rw [if_neg e] at h
      split
      · rename_i e
        rw [if_pos e] at h
        exact prefG_ext (u := c :: v) (v := v) hF rfl rfl hs h
      rename_i e
      rw [if_neg e] at h
      split
      · rename_i e
        rw [if_pos e] at h
        exact prefG_ext (u := c :: v) (v := v) hF rfl rfl hs h
      rename_i e
      rw [if_neg e] at h
      split
      · rename_i e
        rw [if_pos e] at h
        unfold commaG at h ⊢
        by_cases e1 : (v ++ l1).head? = some 64
        · rw [if_pos (by exact e1)] at h
          have hm := (prefG_more lF h).2
          cases v with
          | nil => (simp at hm; omega)
          | cons d v =>
            have e1' : (d :: v ++ l2).head? = some 64 := e1
            rw [if_pos (by exact e1')]
            exact prefG_ext (u := c :: d :: v) (v := v) hF rfl rfl hs h
        · rw [if_neg (by exact e1)] at h
          have hm := prefG_more lF h
          cases v with
          | nil => have := hm.2; simp at this
          | cons d v =>
            have e1' : ¬ (d :: v ++ l2).head? = some 64 := e1
            rw [if_neg (by exact e1')]
            exact prefG_ext (u := c :: d :: v) (v := d :: v) hF rfl rfl hs h
      rename_i e
      rw [if_neg e] at h
      split
      · rename_i e
        rw [if_pos e] at h
        unfold hashG at h ⊢
        by_cases e1 : (v ++ l1).head? = some 39
        · rw [if_pos (by exact e1)] at h
          have hm := (prefG_more lF h).2
          cases v with
          | nil => (simp at hm; omega)
          | cons d v =>
            have e1' : (d :: v ++ l2).head? = some 39 := e1
            rw [if_pos (by exact e1')]
            exact prefG_ext (u := c :: d :: v) (v := v) hF rfl rfl hs h
        · rw [if_neg (by exact e1)] at h
          by_cases e2 : (v ++ l1).head? = some 35 ∧ endsB (List.drop 2 (c :: (v ++ l1))) = true
          · rw [if_pos (by exact e2)] at h
            obtain ⟨h5, h6⟩ := symG_ext (R2 := c :: (v ++ l2)) (l2 := l2) h
            rw [List.drop_succ_cons] at h5 e2
            cases v with
            | nil =>
              have h7 := congrArg List.length h5
              cases l1 with
              | nil => cases e2.1
              | cons _ _ => simp at h7
            | cons d v =>
              have hv0 : v = [] := app_nil (l := l1) h5
              subst hv0
              have e3 : ¬ ([d] ++ l2).head? = some 39 := e1
              rw [if_neg (by exact e3)]
              have e4 : ([d] ++ l2).head? = some 35 ∧ endsB (List.drop 2 (c :: ([d] ++ l2))) = true := ⟨e2.1, hs.ends e2.2⟩
              rw [if_pos (by exact e4)]
              exact h6
          · rw [if_neg (by exact e2)] at h
            cases h
      rename_i e
      rw [if_neg e] at h
      split
      · rename_i e
        rw [if_pos e] at h
        exact textG_ext (u := v) h
      rename_i e
      rw [if_neg e] at h
      split
      · rename_i e
        rw [if_pos e] at h
        exact charG_ext (u := v) h hs
      rename_i e
      rw [if_neg e] at h
      exact tokenG_ext (u := c :: v) h hs
theorem tail_of {v l1 : List Int} (h : v ≠ []) (l2 : List Int) : (v ++ l2).tail = v.tail ++ l2 := by
  cases v with
  | nil => exact absurd rfl h
  | cons c v => rfl
theorem ends_app {v : List Int} (h : v ≠ []) (l1 l2 : List Int) : endsB (v ++ l2) = endsB (v ++ l1) := by
  cases v with
  | nil => exact absurd rfl h
  | cons c v => rfl
theorem dotB_ext {v l1 : List Int} {acc : List Wd} (h : v ≠ []) (h2 : v.tail ≠ []) (l2 : List Int) : dotB acc (v ++ l2) = dotB acc (v ++ l1) := by
  unfold dotB
  rw [head_of h l2 (l1 := l1), tail_of (l1 := l1) h l2, tail_of (l1 := l1) h l1, ends_app h2 l1 l2]
/-- What is left of a list or a vector is shorter than what it begins with. -/
theorem elemG_lt {F : St → Res Wd} {E : List Wd → St → Res (List Wd × Wd)} {acc : List Wd} {s : St} {x : List Wd × Wd} {s' : St} (lF : ∀ s x s', F s = .ok x s' → Lt s.rest s'.rest) (lE : ∀ a s x s', E a s = .ok x s' → s'.rest <:+ s.rest)
    (h : elemG F E acc s = .ok x s') : Lt (skipF false s.rest) s'.rest := by
  unfold elemG at h
  split at h
  · rename_i e
    cases h
    cases hk : skipF false s.rest with
    | nil => rw [hk] at e; cases e
    | cons c r => exact Lt.tail
  · split at h
    · rename_i e1 e
      cases hk : skipF false s.rest with
      | nil =>
        rw [hk] at e
        simp [dotB] at e
      | cons c r =>
        rw [hk] at h
        unfold tailG at h
        split at h
        · rename_i y s2 he
          have hl := lF _ _ _ he
          simp only [List.tail_cons] at hl
          split at h
          · cases h
          · rename_i d r2 hk2
            have h3 := skipF_suf s2.rest false
            rw [hk2] at h3
            split at h <;> cases h
            exact (Lt.tail.trans hl).suf ((List.suffix_cons _ _).trans h3)
        · cases h
    · split at h
      · rename_i y s2 he
        exact (lF _ _ _ he).suf (lE _ _ _ _ h)
      · cases h
theorem eachG_lt {F : St → Res Wd} {V : List Wd → St → Res (List Wd)} {acc : List Wd} {s : St} {x : List Wd} {s' : St} (lF : ∀ s x s', F s = .ok x s' → Lt s.rest s'.rest) (lV : ∀ a s x s', V a s = .ok x s' → s'.rest <:+ s.rest)
    (h : eachG F V acc s = .ok x s') : Lt (skipF false s.rest) s'.rest := by
  unfold eachG at h
  split at h
  · rename_i e
    cases h
    cases hk : skipF false s.rest with
    | nil => rw [hk] at e; cases e
    | cons c r => exact Lt.tail
  · split at h
    · rename_i y s2 he
      exact (lF _ _ _ he).suf (lV _ _ _ _ h)
    · cases h
end Go.Proofs.YtlibdhnlmekmhaaGreatDoor.Rd
end
