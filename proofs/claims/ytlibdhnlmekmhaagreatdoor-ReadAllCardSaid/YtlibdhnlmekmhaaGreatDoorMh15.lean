/- The contract of the reference's Text. | The contract of the reference's Cut. -/
import Derived.Laws.IdiomStrings
import Derived.Test.YtlibdhnlmekmhaaGreatDoorMh14
/- The contract of the reference's Text. -/
section
namespace Go.Proofs.YtlibdhnlmekmhaaGreatDoor.RefStrs
set_option maxRecDepth 100000
open Go.RowKit Go.Shelf Go.Lib
open Go.Proofs.YtlibdhnlmekmhaaGreatDoor.Utf Go.Proofs.YtlibdhnlmekmhaaGreatDoor.Strs Go.Proofs.YtlibdhnlmekmhaaGreatDoor.Cuts Go.Proofs.YtlibdhnlmekmhaaGreatDoor.RefChars Go.Proofs.YtlibdhnlmekmhaaGreatDoor.Chars Go.Proofs.YtlibdhnlmekmhaaGreatDoor.Lst Go.Proofs.YtlibdhnlmekmhaaGreatDoor.LawBack Go.Proofs.YtlibdhnlmekmhaaGreatDoor.Txt

theorem u8_info : (Tryz.prog.info? 5).map (fun i => (i.zero, i.size, i.bytes)) = some (some (.int .u8 0), 1, 1) := by kernel_rfl

/-- string(b) of a row of bytes that the call owns. -/
theorem owned_string {w : World} {base n : Nat} {v : Value} {l : List UInt8} (h : w.ownsRow base 5 1 v n (byteCells l)) :
    (convert 100 9 v).run Tryz.prog w = .ok (.string (strOf l)) w := by
  have hn : l.length = n := by have := h.1; rw [Lib.byteCells_length] at this; omega
  rcases h.2 with ⟨rfl, h0⟩ | ⟨g, cap, cur, rfl, _⟩
  · have hl : l = [] := List.eq_nil_of_length_eq_zero (by omega)
    subst hl
    rw [run_convert_bytes_string w 100 9 5 none 0 0 Tryz.underlying100 Tryz.underlying5 Tryz.underlying9]
    rfl
  · rw [← hn]
    refine run_convert_bytes_back w 100 9 5 ⟨g, 0, none⟩ cap l Tryz.underlying100 Tryz.underlying5 Tryz.underlying9 ?_
    intro j hj
    exact h.cells rfl j _ (by simp [byteCells, List.getElem?_eq_getElem hj])

theorem runeCells_oneCell (c : Int) : ∀ u ∈ runeCells c, u.oneCell' = true := by
  intro u hu
  unfold runeCells at hu
  obtain ⟨x, _, rfl⟩ := List.mem_map.1 hu
  rfl
theorem runeCells_new (w : World) (c : Int) (T : TypeId) (j : Nat) (u : Value) (h : (runeCells c)[j]? = some u) : (w.alloc (.cells (runeCells c).toArray T)).cell? ((⟨w.heap.size, 0, none⟩ : Addr).add j) = some u := by
  have e : (⟨w.heap.size, 0, none⟩ : Addr).add j = ⟨w.heap.size, j, none⟩ := by simp [Addr.add, eq_comm]
  have hj := (List.getElem?_eq_some_iff.1 h).1
  rw [e, World.cell?_alloc_at _ _ _ _ (by simp)]
  simp [← h, List.getElem?_eq_getElem hj]

set_option maxHeartbeats 2000000 in
theorem ref_text_any (v : Value) (l : List Int) (w : World) (h : IntSl w v l) (hl : l.length ≤ 65536) :
    Calls Tryz.prog 30 #[v] w (TextsTo w l) := by
  obtain ⟨A, cap, rfl, _, hr⟩ := h
  have Hr := Lib.hid hr
  obtain ⟨i0, hi, hz0, hz1, hz2⟩ := info_parts u8_info
  have HI := Lib.hid hi
  have HZ0 := Lib.hid hz0
  have HZ1 := Lib.hid hz1
  have HZ2 := Lib.hid hz2
  obtain ⟨n, hn⟩ : ∃ n, l.length = n := ⟨_, rfl⟩
  have Hn := Lib.hid hn
  have hz : ¬ (65536 : Int) < n := by omega
  rw [hn]
  rw [hn] at hl
  have hb0 := Below.refl w.heap.size w
  have hown0 : w.ownsRow w.heap.size 5 1 (.slice none 0 0) 0 (byteCells (enc (l.take 0))) := ⟨by simp [enc, byteCells], .inl ⟨rfl, rfl⟩⟩
  clear hr hn hi hz0 hz1 hz2
  go_enter Tryz.func30, Tryz.ntmps30
  go_wp2
  go_loopw [4, 5] (fun v s wr => ∃ k m : Nat, s = .int .i64 (k : Int) ∧ k ≤ n ∧ m ≤ 4 * k ∧ Hid (∀ c ∈ l.take k, isC c) ∧ wr.ownsRow w.heap.size 5 1 v m (byteCells (enc (l.take k))) ∧ Below w.heap.size w wr ∧ Hid (∃ ao cp, v = .slice ao m cp)) (fun _ s _ => n - (intOf s).toNat)
  case atStart => exact ⟨0, 0, rfl, Nat.zero_le _, Nat.zero_le _, (fun c hc => by simp at hc), hown0, hb0, ⟨_, _, rfl⟩⟩
  case round =>
    obtain ⟨k, m, rfl, hk, hm, HC, hownr, hb, HF⟩ := hrel
    by_cases hlt : k < n
    · have hltz : (k : Int) < n := by omega
      obtain ⟨g, off, rfl, hcell⟩ := Hr.out (by rw [Hn.out]; omega)
      have hc0 := hcell k (by rw [Hn.out]; exact hlt)
      have hc1 : wr.cell? ⟨g, off + k, none⟩ = some (.int .i64 (l.getD k 0)) := (hb.cell (World.block_lt_of_cell? _ _ hc0)).trans hc0
      have hget : l[k]? = some (l.getD k 0) := by simp [List.getD, List.getElem?_eq_getElem (show k < l.length by rw [Hn.out]; exact hlt)]
      have htk : l.take (k + 1) = l.take k ++ [l.getD k 0] := by
        conv => lhs; rw [List.take_add_one, hget]
        rfl
      have hmem : l.getD k 0 ∈ l := List.mem_of_getElem? hget
      obtain ⟨c, hc⟩ : ∃ c, l.getD k 0 = c := ⟨_, rfl⟩
      rw [hc] at hc1 htk hmem
      have Htk := Lib.hid htk
      have Hmem := Lib.hid hmem
      have HIs := Lib.hid (ref_is_any c wr)
      clear hc0 hget htk hmem hc hcell hown0 hb0
      cases hz2 : isZ c
      · have hno : ¬ isC c := fun hh => by rw [(isZ_isC c).2 hh] at hz2; cases hz2
        rw [hz2] at HIs
        have Hno : Hid (¬ ∀ c ∈ l, isC c) := fun hh => hno (hh c Hmem.out)
        clear hno hz2 HF hownr
        go_wp2_with (fail)
        refine HIs.out.mono ?_
        rintro e w1 ⟨rfl, rfl⟩
        go_wp2_with (fail)
        go_ret2
        exact show TextsTo w l _ _ from ⟨.inr ⟨Hno.out, rfl⟩, hb⟩
      · have hyes : isC c := (isZ_isC c).1 hz2
        rw [hz2] at HIs
        have HB := Lib.hid (bytes_any c wr hyes)
        have hrl : (runeCells c).length ≤ 4 := (runeCells_le c).2
        have HC2 : Hid (∀ c ∈ l.take (k + 1), isC c) := by
          show ∀ c ∈ l.take (k + 1), isC c
          intro x hx
          rw [Htk.out] at hx
          rcases List.mem_append.1 hx with hx | hx
          · exact HC.out x hx
          · simp at hx; subst hx; exact hyes
        have hen : byteCells (enc (l.take k)) ++ runeCells c = byteCells (enc (l.take (k + 1))) := by
          rw [Htk.out, enc_append, Lib.byteCells_append, ← byteCells_encodeRune]
          simp [enc]
        have Hen := Lib.hid hen
        have hnews := Lib.hid (fun j u => runeCells_new wr c 5 j u)
        have hone := Lib.hid (runeCells_oneCell c)
        obtain ⟨ao, cp, rfl⟩ := HF.out
        obtain ⟨q, hq⟩ : ∃ q, (runeCells c).length = q := ⟨_, rfl⟩
        have Hq := Lib.hid hq
        rw [hq] at HB hrl
        clear hen HC Htk Hmem hz2 hyes hq
        go_wp2_with (fail)
        refine HIs.out.mono ?_
        rintro e w1 ⟨rfl, rfl⟩
        go_wp2_with (fail)
        refine HB.out.mono ?_
        rintro e w2 ⟨rfl, rfl⟩
        go_wp2_with (at_builtin; refine wpList_append_own _ rfl (.tmp 21) (.tmp 26) 100 rfl w.heap.size 5 i0 (.int .u8 0) 1 1 Tryz.underlying100 HI.out HZ0.out HZ1.out HZ2.out rfl (by decide) _ _ _ rfl (hownr.alloc _) ⟨wr.heap.size, 0, none⟩ q q (runeCells c) rfl ?c1 ?c2 ?c3 ?c4 ?c5 ?c6 ?_)
        case c1 => rw [Hq.out]; omega
        case c2 => exact hnews.out
        case c3 => exact hone.out
        case c4 => unfold maxLen; omega
        case c5 => omega
        case c6 => have := hb.size; simp; omega
        intro v' w5 hown5 hgr5 _
        have hb5 : Below w.heap.size w w5 := (hb.alloc hb.size _).grown hgr5 (by have := hb.size; simp; omega) (fun g hg => (hownr.lt g hg).1)
        have HV5 : Hid (∃ ao cap, v' = .slice ao (m + q) cap) := by
          rcases hown5.2 with ⟨h1, h0⟩ | ⟨g, cap, cur, hv, _⟩
          · exact ⟨none, 0, by rw [h1, h0]⟩
          · exact ⟨_, cap, hv⟩
        rw [Hen.out] at hown5
        clear hgr5 hownr HB HIs
        go_wp2
        go_roundw
        case rel => exact ⟨k + 1, m + q, by go_num, by omega, by omega, HC2, hown5, hb5, HV5⟩
        case measure => simp [intOf]; omega
    · have hltz : ¬ (k : Int) < n := by omega
      have htk : l.take k = l := List.take_of_length_le (by rw [Hn.out]; omega)
      rw [htk] at hownr HC
      have hcv := owned_string hownr
      obtain ⟨ao, cp, rfl⟩ := HF.out
      clear htk hownr HF hown0 hb0
      go_wp2
      go_ret2
      exact show TextsTo w l _ _ from ⟨.inl ⟨HC.out, rfl⟩, hb⟩

theorem ref_text_ok (v : Value) (l : List Int) (w : World) (h : IntSl w v l) (hl : l.length ≤ 65536) (hC : ∀ c ∈ l, isC c) :
    Calls Tryz.prog 30 #[v] w fun e w' => e = .returned (.tuple #[.string (strOf (enc l)), .int .i64 0]) ∧ Below w.heap.size w w' :=
  (ref_text_any v l w h hl).mono fun _ _ ⟨hd, hb⟩ => ⟨by rcases hd with ⟨_, he⟩ | ⟨hn, _⟩; exact he; exact absurd hC hn, hb⟩
theorem ref_text_bad (v : Value) (l : List Int) (w : World) (h : IntSl w v l) (hl : l.length ≤ 65536) (hC : ¬ ∀ c ∈ l, isC c) :
    Calls Tryz.prog 30 #[v] w fun e w' => e = .returned (.tuple #[.string ⟨#[]⟩, .int .i64 3]) ∧ Below w.heap.size w w' :=
  (ref_text_any v l w h hl).mono fun _ _ ⟨hd, hb⟩ => ⟨by rcases hd with ⟨hy, _⟩ | ⟨_, he⟩; exact absurd hy hC; exact he, hb⟩
end Go.Proofs.YtlibdhnlmekmhaaGreatDoor.RefStrs
end

/- The contract of the reference's Cut. -/
section
namespace Go.Proofs.YtlibdhnlmekmhaaGreatDoor.RefStrs
set_option maxRecDepth 100000
open Go.RowKit Go.Shelf Go.Lib
open Go.Proofs.YtlibdhnlmekmhaaGreatDoor.Utf Go.Proofs.YtlibdhnlmekmhaaGreatDoor.Strs Go.Proofs.YtlibdhnlmekmhaaGreatDoor.Cuts Go.Proofs.YtlibdhnlmekmhaaGreatDoor.RefChars Go.Proofs.YtlibdhnlmekmhaaGreatDoor.Chars Go.Proofs.YtlibdhnlmekmhaaGreatDoor.Lst Go.Proofs.YtlibdhnlmekmhaaGreatDoor.LawBack Go.Proofs.YtlibdhnlmekmhaaGreatDoor.Txt

theorem ref_cut_form (s : ByteArray) (i j : Int) (w : World) (hs : s.size < 1000000) (hv : validD s.data.toList = false) :
    Calls Tryz.prog 24 #[.string s, .int .i64 i, .int .i64 j] w fun e w' => e = .returned (.tuple #[.string ⟨#[]⟩, .int .i64 5]) ∧ Below w.heap.size w w' := by
  have H := Lib.hid (ref_list_no s w hs hv)
  clear hv
  go_enter Tryz.func24, Tryz.ntmps24
  go_wp2_with (fail)
  refine H.out.mono ?_
  rintro e w1 ⟨rfl, hb⟩
  go_wp2_with (fail)
  go_ret2
  exact ⟨rfl, hb⟩

set_option maxHeartbeats 1000000 in
theorem ref_cut_range (s : ByteArray) (i j : Int) (w : World) (hs : s.size < 1000000) (hv : validD s.data.toList = true) (hr : i < 0 ∨ j < i ∨ ((runes s.data.toList).length : Int) < j) :
    Calls Tryz.prog 24 #[.string s, .int .i64 i, .int .i64 j] w fun e w' => e = .returned (.tuple #[.string ⟨#[]⟩, .int .i64 3]) ∧ Below w.heap.size w w' := by
  have H := Lib.hid (ref_list_yes s w hs hv)
  obtain ⟨R, hR⟩ : ∃ R, runes s.data.toList = R := ⟨_, rfl⟩
  rw [hR] at H hr
  clear hv hR
  obtain ⟨n, hn⟩ : ∃ n, R.length = n := ⟨_, rfl⟩
  have Hn := Lib.hid hn
  rw [hn] at hr
  clear hn
  by_cases h1 : i < 0
  · clear hr
    go_enter Tryz.func24, Tryz.ntmps24
    go_wp2_with (fail)
    refine H.out.mono ?_
    rintro e w1 ⟨⟨v, rfl, hv⟩, hb⟩
    obtain ⟨A, cap, rfl⟩ := IntSl.form hv
    rw [Hn.out]
    clear hv
    go_wp2_with (fail)
    go_ret2
    exact ⟨rfl, hb⟩
  · by_cases h2 : j < i
    · clear hr
      go_enter Tryz.func24, Tryz.ntmps24
      go_wp2_with (fail)
      refine H.out.mono ?_
      rintro e w1 ⟨⟨v, rfl, hv⟩, hb⟩
      obtain ⟨A, cap, rfl⟩ := IntSl.form hv
      rw [Hn.out]
      clear hv
      go_wp2_with (fail)
      go_ret2
      exact ⟨rfl, hb⟩
    · have h3 : (n : Int) < j := by omega
      clear hr
      go_enter Tryz.func24, Tryz.ntmps24
      go_wp2_with (fail)
      refine H.out.mono ?_
      rintro e w1 ⟨⟨v, rfl, hv⟩, hb⟩
      obtain ⟨A, cap, rfl⟩ := IntSl.form hv
      rw [Hn.out]
      clear hv
      go_wp2_with (fail)
      go_ret2
      exact ⟨rfl, hb⟩

theorem owned_rune (w : World) (c : Int) (base : Nat) (hb : base ≤ w.heap.size) : (w.alloc (.cells (runeCells c).toArray 5)).ownsRow base 5 1 (.slice (some ⟨w.heap.size, 0, none⟩) (runeCells c).length (runeCells c).length) (runeCells c).length (byteCells (encodeRune c)) := by
  have h4 := (runeCells_le c).2
  rw [byteCells_encodeRune]
  refine ⟨by simp, .inr ⟨_, _, _, rfl, hb, heap_alloc_new w _, Nat.le_refl _, by unfold maxLen; omega, by simp, ?_⟩⟩
  simp

set_option maxHeartbeats 2000000 in
theorem ref_cut_yes (s : ByteArray) (i j : Nat) (w : World) (hs : s.size < 1000000) (hv : validD s.data.toList = true) (hij : i ≤ j) (hj : j ≤ (runes s.data.toList).length) :
    Calls Tryz.prog 24 #[.string s, .int .i64 i, .int .i64 j] w fun e w' => e = .returned (.tuple #[.string (strOf (enc (((runes s.data.toList).drop i).take (j - i)))), .int .i64 0]) ∧ Below w.heap.size w w' := by
  have H := Lib.hid (ref_list_yes s w hs hv)
  have hC := isC_runes _ hv
  have hR := runes_length s.data.toList
  rw [size_list] at hR
  generalize runes s.data.toList = R at *
  have HC := Lib.hid hC
  obtain ⟨n, hn⟩ : ∃ n, R.length = n := ⟨_, rfl⟩
  have Hn := Lib.hid hn
  rw [hn] at hj hR
  obtain ⟨F, hF⟩ : ∃ F, strOf (enc ((R.drop i).take (j - i))) = F := ⟨_, rfl⟩
  rw [hF]
  have HF := Lib.hid hF
  clear hv hn hC hF
  have hijz : ¬ (j : Int) < i := by omega
  have hjnz : ¬ (n : Int) < j := by omega
  have hi0 : ¬ (i : Int) < 0 := by omega
  have hd0 : decide ((i : Int) < 0) = false := decide_eq_false (by omega)
  have hd1 : decide (j < i) = false := decide_eq_false (by omega)
  have hd2 : decide (n < j) = false := decide_eq_false (by omega)
  go_enter Tryz.func24, Tryz.ntmps24
  go_wp2_with (fail)
  refine H.out.mono ?_
  rintro e w1 ⟨⟨v, rfl, hv⟩, hb1⟩
  obtain ⟨A, cap, hvA, _, hr⟩ := hv
  subst hvA
  rw [Hn.out] at hr ⊢
  have Hr := Lib.hid hr
  clear H hr
  go_wp2_with (fail)
  clear hd0 hd1 hd2
  go_loopw [10, 11] (fun x s wr => ∃ (t : ByteArray) (k : Nat), x = .string t ∧ s = .int .i64 (k : Int) ∧ i ≤ k ∧ k ≤ j ∧ t.size ≤ 4 * k ∧ Hid (t.data.toList = enc ((R.drop i).take (k - i))) ∧ Below w.heap.size w wr ∧ Hid (Below w1.heap.size w1 wr)) (fun _ s _ => j - (intOf s).toNat)
  case atStart => exact ⟨⟨#[]⟩, i, rfl, rfl, Nat.le_refl _, hij, Nat.zero_le _, by show _ = _; rw [Nat.sub_self, List.take_zero]; rfl, hb1, Below.refl _ _⟩
  case round =>
    obtain ⟨t, k, rfl, rfl, hik, hkj, hts, HT, hb, HB1⟩ := hrel
    by_cases hlt : k < j
    · have hltz : (k : Int) < j := by omega
      have hkn : k < n := by omega
      obtain ⟨g, off, rfl, hcell⟩ := Hr.out (by omega)
      have hc0 := hcell k hkn
      have hc1 : wr.cell? ⟨g, off + k, none⟩ = some (.int .i64 (R.getD k 0)) := (HB1.out.cell (World.block_lt_of_cell? _ _ hc0)).trans hc0
      have hget : R[k]? = some (R.getD k 0) := by simp [List.getD, List.getElem?_eq_getElem (show k < R.length by rw [Hn.out]; exact hkn)]
      have hmem : R.getD k 0 ∈ R := List.mem_of_getElem? hget
      have htk : (R.drop i).take (k + 1 - i) = (R.drop i).take (k - i) ++ [R.getD k 0] := by
        rw [show k + 1 - i = k - i + 1 by omega, List.take_add_one, List.getElem?_drop, show i + (k - i) = k by omega, hget]
        rfl
      obtain ⟨c, hc⟩ : ∃ c, R.getD k 0 = c := ⟨_, rfl⟩
      rw [hc] at hc1 htk hmem
      have hcc := HC.out c hmem
      have HBy := Lib.hid (bytes_any c wr hcc)
      have hq1 := (runeCells_le c).2
      have hown := owned_rune wr c wr.heap.size (Nat.le_refl _)
      have hcv := owned_string hown
      have hpl : (strOf (encodeRune c)).size ≤ 4 := by
        have h1 := (encode_length c).2
        have h2 := size_list (strOf (encodeRune c))
        rw [strOf_list] at h2
        omega
      have hap : Hid ((t ++ strOf (encodeRune c)).data.toList = enc ((R.drop i).take (k + 1 - i))) := by
        show _ = _
        rw [htk, enc_append, ByteArray.data_append, Array.toList_append, HT.out, strOf_list]
        simp [enc]
      have hsz2 : (t ++ strOf (encodeRune c)).size ≤ 4 * (k + 1) := by rw [ByteArray.size_append]; omega
      generalize (runeCells c).length = q at *
      generalize strOf (encodeRune c) = P at *
      have hb2 := Lib.hid (hb.alloc hb.size (.cells (runeCells c).toArray 5))
      have hb3 : Hid (Below w1.heap.size w1 (wr.alloc (.cells (runeCells c).toArray 5))) := HB1.out.alloc HB1.out.size _
      clear hc0 hget hmem htk hc hcc hown hcell HT
      generalize (Obj.cells (runeCells c).toArray 5) = O at *
      go_wp2_with (fail)
      refine HBy.out.mono ?_
      rintro e w2 ⟨rfl, rfl⟩
      go_wp2_with (fail)
      go_roundw
      case rel => exact ⟨t ++ P, k + 1, rfl, by go_num, by omega, by omega, hsz2, hap, hb2.out, hb3⟩
      case measure => simp [intOf]; omega
    · have hltz : ¬ (k : Int) < j := by omega
      have hkj2 : k = j := by omega
      subst hkj2
      have htF : t = F := by rw [← HF.out]; exact strOf_eq HT.out
      subst htF
      clear HT HF
      go_wp2_with (fail)
      go_ret2
      exact ⟨rfl, hb⟩
end Go.Proofs.YtlibdhnlmekmhaaGreatDoor.RefStrs
end
