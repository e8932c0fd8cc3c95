/- RunesBack: the walk of the law. -/
import Derived.Test.YtagcfgonajogcaaDoorText
import Derived.Test.YtagcfgonajogcaaDoorGives
namespace Go.Proofs.YtagcfgonajogcaaDoor.LawBack
open Go.RowKit Go.Shelf Go.Lib
open Go.Proofs.YtagcfgonajogcaaDoor.Utf Go.Proofs.YtagcfgonajogcaaDoor.Strs Go.Proofs.YtagcfgonajogcaaDoor.Lst Go.Proofs.YtagcfgonajogcaaDoor.Chars Go.Proofs.YtagcfgonajogcaaDoor.Give Go.Proofs.YtagcfgonajogcaaDoor.Txt

theorem all_isC (l : List Int) : l.all isZ = true ↔ ∀ c ∈ l, isC c := by
  rw [List.all_eq_true]
  exact ⟨fun h c hc => (isZ_isC c).1 (h c hc), fun h c hc => (isZ_isC c).2 (h c hc)⟩

theorem text_ok (v : Value) (l : List Int) (w : World) (h : IntSl w v l) (hl : l.length ≤ 65536) (hC : ∀ c ∈ l, isC c) :
    Calls Tryd.prog 12 #[v] w fun e w' => e = .returned (.tuple #[.string (strOf (enc l)), .int .i64 0]) ∧ Below w.heap.size w w' :=
  (text_any v l w h hl).mono fun _ _ ⟨hd, hb⟩ => ⟨by rcases hd with ⟨_, he⟩ | ⟨hn, _⟩; exact he; exact absurd hC hn, hb⟩
theorem text_bad (v : Value) (l : List Int) (w : World) (h : IntSl w v l) (hl : l.length ≤ 65536) (hC : ¬ ∀ c ∈ l, isC c) :
    Calls Tryd.prog 12 #[v] w fun e w' => e = .returned (.tuple #[.string ⟨#[]⟩, .int .i64 3]) ∧ Below w.heap.size w w' :=
  (text_any v l w h hl).mono fun _ _ ⟨hd, hb⟩ => ⟨by rcases hd with ⟨hy, _⟩ | ⟨_, he⟩; exact absurd hy hC; exact he, hb⟩

/-- List of a valid string: the slice that it returns reads as the string's characters. -/
theorem list_ok (s : ByteArray) (w : World) (hs : s.size < 1000000) (hT : Tabs w) (hv : validD s.data.toList = true) :
    Calls Tryd.prog 13 #[.string s] w fun e w' => (∃ v, e = .returned (.tuple #[v, .int .i64 0]) ∧ IntSl w' v (runes s.data.toList)) ∧ Below w.heap.size w w' :=
  (list_yes s w hs hT hv).mono fun _ _ ⟨_, _, _, he, _, ho, hb⟩ => ⟨⟨_, he, IntSl.of_own ho⟩, hb⟩

theorem IntSl.form {w : World} {v : Value} {R : List Int} (h : IntSl w v R) : ∃ A cap, v = .slice A R.length cap := by
  obtain ⟨A, cap, hv, _⟩ := h
  exact ⟨A, cap, hv⟩
theorem nil_reads (w : World) : IntSl w (.slice none 0 0) [] := ⟨none, 0, rfl, Nat.le_refl _, fun h => absurd h (by simp)⟩

set_option maxRecDepth 100000 in
set_option maxHeartbeats 1000000 in
theorem long_s (s : ByteArray) (v : Value) (l : List Int) (w : World) (_ : IntSl w v l) (hs : s.size ≤ maxLen) (h : 2000 < s.size) (L : Gives w 10 #[] (.bool true)) :
    Calls Tryd.prog 6 #[v, .string s] w fun e w' => e = .returned (.bool true) ∧ Below w.heap.size w w' := by
  unfold maxLen at hs
  have hz : (2000 : Int) < s.size := by omega
  have hb0 := Below.refl w.heap.size w
  go_enter Tryd.func6, Tryd.ntmps6
  go_wp2_with (fail)
  refine (L.out _ hb0).mono ?_
  rintro e w1 ⟨rfl, hb1⟩
  go_wp2_with (fail)
  go_ret
  exact ⟨rfl, hb1⟩
set_option maxRecDepth 100000 in
set_option maxHeartbeats 1000000 in
theorem long_l (s : ByteArray) (v : Value) (l : List Int) (w : World) (hv : IntSl w v l) (hs : s.size ≤ 2000) (h : 2000 < l.length) (hm : l.length ≤ 9223372036854775807) (L : Gives w 10 #[] (.bool true)) :
    Calls Tryd.prog 6 #[v, .string s] w fun e w' => e = .returned (.bool true) ∧ Below w.heap.size w w' := by
  have hz : ¬ (2000 : Int) < s.size := by omega
  have hb0 := Below.refl w.heap.size w
  obtain ⟨A, cap, rfl⟩ := IntSl.form hv
  clear hv
  generalize l.length = n at *
  have hz2 : (2000 : Int) < n := by omega
  go_enter Tryd.func6, Tryd.ntmps6
  go_wp2_with (fail)
  refine (L.out _ hb0).mono ?_
  rintro e w1 ⟨rfl, hb1⟩
  go_wp2_with (fail)
  go_ret
  exact ⟨rfl, hb1⟩

set_option maxRecDepth 100000 in
set_option maxHeartbeats 4000000 in
theorem yes_yes (s : ByteArray) (A : Option Addr) (n cap : Nat) (l : List Int) (w : World) (Hv : Hid (IntSl w (.slice A n cap) l)) (Hn : Hid (l.length = n)) (hs : s.size ≤ 2000) (hl : n ≤ 2000) (hT : Tabs w) (HC : Hid (∀ c ∈ l, isC c)) (hvs : validD s.data.toList = true) (L : Gives w 10 #[] (.bool true)) :
    Calls Tryd.prog 6 #[.slice A n cap, .string s] w fun e w' => e = .returned (.bool true) ∧ Below w.heap.size w w' := by
  have hz : ¬ (2000 : Int) < s.size := by omega
  have hz2 : ¬ (2000 : Int) < n := by omega
  have hb0 := Below.refl w.heap.size w
  have HTx := Lib.hid (fun W (hb : Below w.heap.size w W) => text_ok (.slice A n cap) l W (Hv.out.below hb) (by rw [Hn.out]; omega) HC.out)
  have HT := Lib.hid hT
  have Hvs := Lib.hid hvs
  clear hT hvs
  go_enter Tryd.func6, Tryd.ntmps6
  go_wp2_with (fail)
  refine (L.out _ hb0).mono ?_
  rintro e w1 ⟨rfl, hb1⟩
  clear hb0 L
  go_wp2_with (fail)
  refine (HTx.out _ hb1).mono ?_
  rintro e w2 ⟨rfl, hb12⟩
  have hb2 := hb1.trans (hb12.mono hb1.size)
  clear hb1 hb12 HTx
  obtain ⟨T, hTT⟩ : ∃ T, strOf (enc l) = T := ⟨_, rfl⟩
  rw [hTT]
  have HTl := Lib.hid (show T.data.toList = enc l by rw [← hTT, strOf_list])
  clear hTT
  go_wp2_with (fail)
  go_loop [7, 8] (fun a b => ∃ k : Nat, b = .int .i64 (k : Int) ∧ k ≤ n ∧ a = .bool true) (fun _ b => n - (intOf b).toNat)
  case atStart => exact ⟨0, rfl, Nat.zero_le _, rfl⟩
  case round =>
    obtain ⟨k, rfl, hk, rfl⟩ := hrel
    by_cases hlt : k < n
    · have hltz : (k : Int) < n := by omega
      obtain ⟨A', cap', heq, _, hr⟩ := Hv.out
      rw [Hn.out] at hr heq
      injection heq with h1 h2 h3
      subst h1 h3
      obtain ⟨g, off, rfl, hcell⟩ := hr (by omega)
      have hc0 := hcell k hlt
      have hc1 : w2.cell? ⟨g, off + k, none⟩ = some (.int .i64 (l.getD k 0)) := (hb2.cell (World.block_lt_of_cell? _ _ hc0)).trans hc0
      have hget : l[k]? = some (l.getD k 0) := by simp [List.getD, List.getElem?_eq_getElem (show k < l.length by rw [Hn.out]; exact hlt)]
      have hmem : l.getD k 0 ∈ l := List.mem_of_getElem? hget
      have his := (isZ_isC _).2 (HC.out _ hmem)
      clear hget
      generalize l.getD k 0 = c at *
      have HI := Lib.hid (is_any c w2)
      rw [his] at HI
      clear hc0 hcell hmem hr his h2
      go_wp2_with (go_at_call 21; refine HI.out.mono ?_; rintro e w3 ⟨rfl, rfl⟩)
      go_round
      case rel => exact ⟨k + 1, by go_num, by omega, rfl⟩
      case measure => simp [intOf]; omega
    · have hltz : ¬ (k : Int) < n := by omega
      clear hk hlt
      go_wp2_with (fail)
      have hTv : validD T.data.toList = true := by rw [HTl.out]; exact valid_enc_all l HC.out
      have hTr : runes T.data.toList = l := by rw [HTl.out]; exact runes_enc_all l HC.out
      have hTs : T.size < 1000000 := by
        have h1 := enc_le l
        rw [← HTl.out, Hn.out] at h1
        have h2 : T.data.toList.length = T.size := by simp
        omega
      have hTn : lenL T.data.toList = n := by simp [lenL, hTv, hTr, Hn.out]
      have hTabs2 := HT.out.below hb2
      refine (list_ok T w2 hTs hTabs2 hTv).mono ?_
      rintro e w3 ⟨⟨m, rfl, hm⟩, hb23⟩
      have hb3 := hb2.trans (hb23.mono hb2.size)
      rw [hTr] at hm
      have HSame := Lib.hid (same_any m (.slice A n cap) l l w3 hm (Hv.out.below hb3) (by rw [Hn.out]; omega))
      rw [beq_self_eq_true] at HSame
      have HLen := Lib.hid (fun W (hb : Below w.heap.size w W) => len_any T W (by omega) (HT.out.below hb))
      rw [hTn] at HLen
      have HVal := Lib.hid (fun W (hb : Below w.heap.size w W) => valid_any T W (by omega) (HT.out.below hb))
      rw [hTv] at HVal
      clear hTv hTr hTn hTabs2 hb2 hb23 hm
      go_wp2_with (fail)
      refine HSame.out.mono ?_
      rintro e w4 ⟨rfl, q4, hq4⟩
      have hb4 : Below w.heap.size w w4 := by rw [hq4]; exact below_drewNv hb3 q4
      clear hq4 HSame hb3
      go_wp2_with (fail)
      refine (HLen.out _ hb4).mono ?_
      rintro e w5 ⟨rfl, hb45⟩
      have hb5 := hb4.trans (hb45.mono hb4.size)
      clear hb4 hb45 HLen
      go_wp2_with (fail)
      refine (HVal.out _ hb5).mono ?_
      rintro e w6 ⟨rfl, hb56⟩
      have hb6 := hb5.trans (hb56.mono hb5.size)
      clear hb5 hb56 HVal
      go_wp2_with (fail)
      refine (list_ok s w6 (by omega) (HT.out.below hb6) Hvs.out).mono ?_
      rintro e w7 ⟨⟨m7, rfl, hm7⟩, hb67⟩
      have hb7 := hb6.trans (hb67.mono hb6.size)
      have HVs := Lib.hid (valid_any s w7 (by omega) (HT.out.below hb7))
      rw [Hvs.out] at HVs
      have Hm7 := Lib.hid hm7
      clear hb6 hb67 hm7
      go_wp2_with (fail)
      refine HVs.out.mono ?_
      rintro e w8 ⟨rfl, hb78⟩
      have hb8 := hb7.trans (hb78.mono hb7.size)
      have hlen : (runes s.data.toList).length ≤ 65536 := by
        have h1 := runes_length s.data.toList
        have h2 : s.data.toList.length = s.size := by simp
        omega
      have h := text_ok m7 (runes s.data.toList) w8 (Hm7.out.below hb78) hlen (isC_runes _ Hvs.out)
      rw [enc_runes _ Hvs.out, ← strOf_eq (s := s) rfl] at h
      have HText := Lib.hid h
      clear hb7 hb78 HVs h hlen
      go_wp2_with (fail)
      refine HText.out.mono ?_
      rintro e w9 ⟨rfl, hb89⟩
      have hb9 := hb8.trans (hb89.mono hb8.size)
      clear hb8 hb89 HText
      go_wp2_with (fail)
      go_ret
      exact ⟨rfl, hb9⟩

set_option maxRecDepth 100000 in
set_option maxHeartbeats 4000000 in
theorem yes_no (s : ByteArray) (A : Option Addr) (n cap : Nat) (l : List Int) (w : World) (Hv : Hid (IntSl w (.slice A n cap) l)) (Hn : Hid (l.length = n)) (hs : s.size ≤ 2000) (hl : n ≤ 2000) (hT : Tabs w) (HC : Hid (∀ c ∈ l, isC c)) (hvs : validD s.data.toList = false) (L : Gives w 10 #[] (.bool true)) :
    Calls Tryd.prog 6 #[.slice A n cap, .string s] w fun e w' => e = .returned (.bool true) ∧ Below w.heap.size w w' := by
  have hz : ¬ (2000 : Int) < s.size := by omega
  have hz2 : ¬ (2000 : Int) < n := by omega
  have hb0 := Below.refl w.heap.size w
  have HTx := Lib.hid (fun W (hb : Below w.heap.size w W) => text_ok (.slice A n cap) l W (Hv.out.below hb) (by rw [Hn.out]; omega) HC.out)
  have HT := Lib.hid hT
  have Hvs := Lib.hid hvs
  clear hT hvs
  go_enter Tryd.func6, Tryd.ntmps6
  go_wp2_with (fail)
  refine (L.out _ hb0).mono ?_
  rintro e w1 ⟨rfl, hb1⟩
  clear hb0 L
  go_wp2_with (fail)
  refine (HTx.out _ hb1).mono ?_
  rintro e w2 ⟨rfl, hb12⟩
  have hb2 := hb1.trans (hb12.mono hb1.size)
  clear hb1 hb12 HTx
  obtain ⟨T, hTT⟩ : ∃ T, strOf (enc l) = T := ⟨_, rfl⟩
  rw [hTT]
  have HTl := Lib.hid (show T.data.toList = enc l by rw [← hTT, strOf_list])
  clear hTT
  go_wp2_with (fail)
  go_loop [7, 8] (fun a b => ∃ k : Nat, b = .int .i64 (k : Int) ∧ k ≤ n ∧ a = .bool true) (fun _ b => n - (intOf b).toNat)
  case atStart => exact ⟨0, rfl, Nat.zero_le _, rfl⟩
  case round =>
    obtain ⟨k, rfl, hk, rfl⟩ := hrel
    by_cases hlt : k < n
    · have hltz : (k : Int) < n := by omega
      obtain ⟨A', cap', heq, _, hr⟩ := Hv.out
      rw [Hn.out] at hr heq
      injection heq with h1 h2 h3
      subst h1 h3
      obtain ⟨g, off, rfl, hcell⟩ := hr (by omega)
      have hc0 := hcell k hlt
      have hc1 : w2.cell? ⟨g, off + k, none⟩ = some (.int .i64 (l.getD k 0)) := (hb2.cell (World.block_lt_of_cell? _ _ hc0)).trans hc0
      have hget : l[k]? = some (l.getD k 0) := by simp [List.getD, List.getElem?_eq_getElem (show k < l.length by rw [Hn.out]; exact hlt)]
      have hmem : l.getD k 0 ∈ l := List.mem_of_getElem? hget
      have his := (isZ_isC _).2 (HC.out _ hmem)
      clear hget
      generalize l.getD k 0 = c at *
      have HI := Lib.hid (is_any c w2)
      rw [his] at HI
      clear hc0 hcell hmem hr his h2
      go_wp2_with (go_at_call 21; refine HI.out.mono ?_; rintro e w3 ⟨rfl, rfl⟩)
      go_round
      case rel => exact ⟨k + 1, by go_num, by omega, rfl⟩
      case measure => simp [intOf]; omega
    · have hltz : ¬ (k : Int) < n := by omega
      clear hk hlt
      go_wp2_with (fail)
      have hTv : validD T.data.toList = true := by rw [HTl.out]; exact valid_enc_all l HC.out
      have hTr : runes T.data.toList = l := by rw [HTl.out]; exact runes_enc_all l HC.out
      have hTs : T.size < 1000000 := by
        have h1 := enc_le l
        rw [← HTl.out, Hn.out] at h1
        have h2 : T.data.toList.length = T.size := by simp
        omega
      have hTn : lenL T.data.toList = n := by simp [lenL, hTv, hTr, Hn.out]
      have hTabs2 := HT.out.below hb2
      refine (list_ok T w2 hTs hTabs2 hTv).mono ?_
      rintro e w3 ⟨⟨m, rfl, hm⟩, hb23⟩
      have hb3 := hb2.trans (hb23.mono hb2.size)
      rw [hTr] at hm
      have HSame := Lib.hid (same_any m (.slice A n cap) l l w3 hm (Hv.out.below hb3) (by rw [Hn.out]; omega))
      rw [beq_self_eq_true] at HSame
      have HLen := Lib.hid (fun W (hb : Below w.heap.size w W) => len_any T W (by omega) (HT.out.below hb))
      rw [hTn] at HLen
      have HVal := Lib.hid (fun W (hb : Below w.heap.size w W) => valid_any T W (by omega) (HT.out.below hb))
      rw [hTv] at HVal
      clear hTv hTr hTn hTabs2 hb2 hb23 hm
      go_wp2_with (fail)
      refine HSame.out.mono ?_
      rintro e w4 ⟨rfl, q4, hq4⟩
      have hb4 : Below w.heap.size w w4 := by rw [hq4]; exact below_drewNv hb3 q4
      clear hq4 HSame hb3
      go_wp2_with (fail)
      refine (HLen.out _ hb4).mono ?_
      rintro e w5 ⟨rfl, hb45⟩
      have hb5 := hb4.trans (hb45.mono hb4.size)
      clear hb4 hb45 HLen
      go_wp2_with (fail)
      refine (HVal.out _ hb5).mono ?_
      rintro e w6 ⟨rfl, hb56⟩
      have hb6 := hb5.trans (hb56.mono hb5.size)
      clear hb5 hb56 HVal
      go_wp2_with (fail)
      refine (list_no s w6 (by omega) (HT.out.below hb6) Hvs.out).mono ?_
      rintro e w7 ⟨rfl, hb67⟩
      have hb7 := hb6.trans (hb67.mono hb6.size)
      have HVs := Lib.hid (valid_any s w7 (by omega) (HT.out.below hb7))
      rw [Hvs.out] at HVs
      have HLs := Lib.hid (fun W (hb : Below w.heap.size w W) => len_any s W (by omega) (HT.out.below hb))
      rw [show lenL s.data.toList = 0 by simp [lenL, Hvs.out]] at HLs
      clear hb6 hb67
      go_wp2_with (fail)
      refine HVs.out.mono ?_
      rintro e w8 ⟨rfl, hb78⟩
      have hb8 := hb7.trans (hb78.mono hb7.size)
      clear hb7 hb78 HVs
      go_wp2_with (fail)
      refine (HLs.out _ hb8).mono ?_
      rintro e w9 ⟨rfl, hb89⟩
      have hb9 := hb8.trans (hb89.mono hb8.size)
      clear hb8 hb89 HLs
      go_wp2_with (fail)
      refine (text_ok (.slice none 0 0) [] w9 (nil_reads w9) (by simp) (by simp)).mono ?_
      rintro e w10 ⟨rfl, hb910⟩
      have hb10 := hb9.trans (hb910.mono hb9.size)
      clear hb9 hb910
      go_wp2_with (fail)
      go_ret
      exact ⟨rfl, hb10⟩

set_option maxRecDepth 100000 in
set_option maxHeartbeats 4000000 in
theorem no_yes (s : ByteArray) (A : Option Addr) (n cap : Nat) (l : List Int) (w : World) (Hv : Hid (IntSl w (.slice A n cap) l)) (Hn : Hid (l.length = n)) (hs : s.size ≤ 2000) (hl : n ≤ 2000) (hT : Tabs w) (HC : Hid (¬ ∀ c ∈ l, isC c)) (hvs : validD s.data.toList = true) (L : Gives w 10 #[] (.bool true)) :
    Calls Tryd.prog 6 #[.slice A n cap, .string s] w fun e w' => e = .returned (.bool true) ∧ Below w.heap.size w w' := by
  have hz : ¬ (2000 : Int) < s.size := by omega
  have hz2 : ¬ (2000 : Int) < n := by omega
  have hb0 := Below.refl w.heap.size w
  have HTx := Lib.hid (fun W (hb : Below w.heap.size w W) => text_bad (.slice A n cap) l W (Hv.out.below hb) (by rw [Hn.out]; omega) HC.out)
  have HT := Lib.hid hT
  have Hvs := Lib.hid hvs
  clear hT hvs
  go_enter Tryd.func6, Tryd.ntmps6
  go_wp2_with (fail)
  refine (L.out _ hb0).mono ?_
  rintro e w1 ⟨rfl, hb1⟩
  clear hb0 L
  go_wp2_with (fail)
  refine (HTx.out _ hb1).mono ?_
  rintro e w2 ⟨rfl, hb12⟩
  have hb2 := hb1.trans (hb12.mono hb1.size)
  clear hb1 hb12 HTx
  go_wp2_with (fail)
  go_loop [7, 8] (fun a b => ∃ (k : Nat) (q : Bool), b = .int .i64 (k : Int) ∧ k ≤ n ∧ a = .bool q ∧ Hid ((l.take k).all isZ = q)) (fun _ b => n - (intOf b).toNat)
  case atStart => exact ⟨0, true, rfl, Nat.zero_le _, rfl, rfl⟩
  case round =>
    obtain ⟨k, q, rfl, hk, rfl, HQ⟩ := hrel
    by_cases hlt : k < n
    · have hltz : (k : Int) < n := by omega
      obtain ⟨A', cap', heq, _, hr⟩ := Hv.out
      rw [Hn.out] at hr heq
      injection heq with h1 h2 h3
      subst h1 h3
      obtain ⟨g, off, rfl, hcell⟩ := hr (by omega)
      have hc0 := hcell k hlt
      have hc1 : w2.cell? ⟨g, off + k, none⟩ = some (.int .i64 (l.getD k 0)) := (hb2.cell (World.block_lt_of_cell? _ _ hc0)).trans hc0
      have hget : l[k]? = some (l.getD k 0) := by simp [List.getD, List.getElem?_eq_getElem (show k < l.length by rw [Hn.out]; exact hlt)]
      have htk : (l.take (k + 1)).all isZ = ((l.take k).all isZ && isZ (l.getD k 0)) := by
        rw [List.take_add_one, hget]
        simp
      rw [HQ.out] at htk
      clear hget hc0 hcell hr h2 HQ
      generalize l.getD k 0 = c at *
      have HI := Lib.hid (is_any c w2)
      cases q
      · have hQ : Hid ((l.take (k + 1)).all isZ = false) := by show _ = _; rw [htk]; rfl
        clear htk HI
        go_wp2
        go_round
        case rel => exact ⟨k + 1, false, by go_num, by omega, rfl, hQ⟩
        case measure => simp [intOf]; omega
      · have hQ : Hid ((l.take (k + 1)).all isZ = isZ c) := by show _ = _; rw [htk]; rfl
        clear htk
        generalize isZ c = q2 at *
        go_wp2_with (go_at_call 21; refine HI.out.mono ?_; rintro e w3 ⟨rfl, rfl⟩)
        go_round
        case rel => exact ⟨k + 1, q2, by go_num, by omega, rfl, hQ⟩
        case measure => simp [intOf]; omega
    · have hltz : ¬ (k : Int) < n := by omega
      have hqf : q = false := by
        cases q
        · rfl
        · exfalso
          have h1 := HQ.out
          rw [List.take_of_length_le (by rw [Hn.out]; omega)] at h1
          exact HC.out ((all_isC l).1 h1)
      subst hqf
      clear hk hlt HQ
      go_wp2_with (fail)
      refine (list_ok ⟨#[]⟩ w2 (by decide) (HT.out.below hb2) rfl).mono ?_
      rintro e w6 ⟨⟨m, rfl, hm⟩, hb23⟩
      have hb6 := hb2.trans (hb23.mono hb2.size)
      clear hb2 hb23 hm
      go_wp2_with (fail)
      refine (list_ok s w6 (by omega) (HT.out.below hb6) Hvs.out).mono ?_
      rintro e w7 ⟨⟨m7, rfl, hm7⟩, hb67⟩
      have hb7 := hb6.trans (hb67.mono hb6.size)
      have HVs := Lib.hid (valid_any s w7 (by omega) (HT.out.below hb7))
      rw [Hvs.out] at HVs
      have Hm7 := Lib.hid hm7
      clear hb6 hb67 hm7
      go_wp2_with (fail)
      refine HVs.out.mono ?_
      rintro e w8 ⟨rfl, hb78⟩
      have hb8 := hb7.trans (hb78.mono hb7.size)
      have hlen : (runes s.data.toList).length ≤ 65536 := by
        have h1 := runes_length s.data.toList
        have h2 : s.data.toList.length = s.size := by simp
        omega
      have h := text_ok m7 (runes s.data.toList) w8 (Hm7.out.below hb78) hlen (isC_runes _ Hvs.out)
      rw [enc_runes _ Hvs.out, ← strOf_eq (s := s) rfl] at h
      have HText := Lib.hid h
      clear hb7 hb78 HVs h hlen
      go_wp2_with (fail)
      refine HText.out.mono ?_
      rintro e w9 ⟨rfl, hb89⟩
      have hb9 := hb8.trans (hb89.mono hb8.size)
      clear hb8 hb89 HText
      go_wp2_with (fail)
      go_ret
      exact ⟨rfl, hb9⟩

set_option maxRecDepth 100000 in
set_option maxHeartbeats 4000000 in
theorem no_no (s : ByteArray) (A : Option Addr) (n cap : Nat) (l : List Int) (w : World) (Hv : Hid (IntSl w (.slice A n cap) l)) (Hn : Hid (l.length = n)) (hs : s.size ≤ 2000) (hl : n ≤ 2000) (hT : Tabs w) (HC : Hid (¬ ∀ c ∈ l, isC c)) (hvs : validD s.data.toList = false) (L : Gives w 10 #[] (.bool true)) :
    Calls Tryd.prog 6 #[.slice A n cap, .string s] w fun e w' => e = .returned (.bool true) ∧ Below w.heap.size w w' := by
  have hz : ¬ (2000 : Int) < s.size := by omega
  have hz2 : ¬ (2000 : Int) < n := by omega
  have hb0 := Below.refl w.heap.size w
  have HTx := Lib.hid (fun W (hb : Below w.heap.size w W) => text_bad (.slice A n cap) l W (Hv.out.below hb) (by rw [Hn.out]; omega) HC.out)
  have HT := Lib.hid hT
  have Hvs := Lib.hid hvs
  clear hT hvs
  go_enter Tryd.func6, Tryd.ntmps6
  go_wp2_with (fail)
  refine (L.out _ hb0).mono ?_
  rintro e w1 ⟨rfl, hb1⟩
  clear hb0 L
  go_wp2_with (fail)
  refine (HTx.out _ hb1).mono ?_
  rintro e w2 ⟨rfl, hb12⟩
  have hb2 := hb1.trans (hb12.mono hb1.size)
  clear hb1 hb12 HTx
  go_wp2_with (fail)
  go_loop [7, 8] (fun a b => ∃ (k : Nat) (q : Bool), b = .int .i64 (k : Int) ∧ k ≤ n ∧ a = .bool q ∧ Hid ((l.take k).all isZ = q)) (fun _ b => n - (intOf b).toNat)
  case atStart => exact ⟨0, true, rfl, Nat.zero_le _, rfl, rfl⟩
  case round =>
    obtain ⟨k, q, rfl, hk, rfl, HQ⟩ := hrel
    by_cases hlt : k < n
    · have hltz : (k : Int) < n := by omega
      obtain ⟨A', cap', heq, _, hr⟩ := Hv.out
      rw [Hn.out] at hr heq
      injection heq with h1 h2 h3
      subst h1 h3
      obtain ⟨g, off, rfl, hcell⟩ := hr (by omega)
      have hc0 := hcell k hlt
      have hc1 : w2.cell? ⟨g, off + k, none⟩ = some (.int .i64 (l.getD k 0)) := (hb2.cell (World.block_lt_of_cell? _ _ hc0)).trans hc0
      have hget : l[k]? = some (l.getD k 0) := by simp [List.getD, List.getElem?_eq_getElem (show k < l.length by rw [Hn.out]; exact hlt)]
      have htk : (l.take (k + 1)).all isZ = ((l.take k).all isZ && isZ (l.getD k 0)) := by
        rw [List.take_add_one, hget]
        simp
      rw [HQ.out] at htk
      clear hget hc0 hcell hr h2 HQ
      generalize l.getD k 0 = c at *
      have HI := Lib.hid (is_any c w2)
      cases q
      · have hQ : Hid ((l.take (k + 1)).all isZ = false) := by show _ = _; rw [htk]; rfl
        clear htk HI
        go_wp2
        go_round
        case rel => exact ⟨k + 1, false, by go_num, by omega, rfl, hQ⟩
        case measure => simp [intOf]; omega
      · have hQ : Hid ((l.take (k + 1)).all isZ = isZ c) := by show _ = _; rw [htk]; rfl
        clear htk
        generalize isZ c = q2 at *
        go_wp2_with (go_at_call 21; refine HI.out.mono ?_; rintro e w3 ⟨rfl, rfl⟩)
        go_round
        case rel => exact ⟨k + 1, q2, by go_num, by omega, rfl, hQ⟩
        case measure => simp [intOf]; omega
    · have hltz : ¬ (k : Int) < n := by omega
      have hqf : q = false := by
        cases q
        · rfl
        · exfalso
          have h1 := HQ.out
          rw [List.take_of_length_le (by rw [Hn.out]; omega)] at h1
          exact HC.out ((all_isC l).1 h1)
      subst hqf
      clear hk hlt HQ
      go_wp2_with (fail)
      refine (list_ok ⟨#[]⟩ w2 (by decide) (HT.out.below hb2) rfl).mono ?_
      rintro e w6 ⟨⟨m, rfl, hm⟩, hb23⟩
      have hb6 := hb2.trans (hb23.mono hb2.size)
      clear hb2 hb23 hm
      go_wp2_with (fail)
      refine (list_no s w6 (by omega) (HT.out.below hb6) Hvs.out).mono ?_
      rintro e w7 ⟨rfl, hb67⟩
      have hb7 := hb6.trans (hb67.mono hb6.size)
      have HVs := Lib.hid (valid_any s w7 (by omega) (HT.out.below hb7))
      rw [Hvs.out] at HVs
      have HLs := Lib.hid (fun W (hb : Below w.heap.size w W) => len_any s W (by omega) (HT.out.below hb))
      rw [show lenL s.data.toList = 0 by simp [lenL, Hvs.out]] at HLs
      clear hb6 hb67
      go_wp2_with (fail)
      refine HVs.out.mono ?_
      rintro e w8 ⟨rfl, hb78⟩
      have hb8 := hb7.trans (hb78.mono hb7.size)
      clear hb7 hb78 HVs
      go_wp2_with (fail)
      refine (HLs.out _ hb8).mono ?_
      rintro e w9 ⟨rfl, hb89⟩
      have hb9 := hb8.trans (hb89.mono hb8.size)
      clear hb8 hb89 HLs
      go_wp2_with (fail)
      refine (text_ok (.slice none 0 0) [] w9 (nil_reads w9) (by simp) (by simp)).mono ?_
      rintro e w10 ⟨rfl, hb910⟩
      have hb10 := hb9.trans (hb910.mono hb9.size)
      clear hb9 hb910
      go_wp2_with (fail)
      go_ret
      exact ⟨rfl, hb10⟩

theorem walk (v : Value) (l : List Int) (s : ByteArray) (w : World) (hv : IntSl w v l) (hm : l.length ≤ 9223372036854775807) (hs : s.size ≤ maxLen) (hT : Tabs w) :
    Calls Tryd.prog 6 #[v, .string s] w fun e w' => e = .returned (.bool true) ∧ Below w.heap.size w w' := by
  have L := lives_gives w hT
  by_cases h1 : 2000 < s.size
  · exact long_s s v l w hv hs h1 L
  · by_cases h2 : 2000 < l.length
    · exact long_l s v l w hv (by omega) h2 hm L
    · obtain ⟨A, cap, rfl⟩ := IntSl.form hv
      by_cases hC : ∀ c ∈ l, isC c
      · cases hvs : validD s.data.toList
        · exact yes_no s A l.length cap l w hv rfl (by omega) (by omega) hT hC hvs L
        · exact yes_yes s A l.length cap l w hv rfl (by omega) (by omega) hT hC hvs L
      · cases hvs : validD s.data.toList
        · exact no_no s A l.length cap l w hv rfl (by omega) (by omega) hT hC hvs L
        · exact no_yes s A l.length cap l w hv rfl (by omega) (by omega) hT hC hvs L
end Go.Proofs.YtagcfgonajogcaaDoor.LawBack
