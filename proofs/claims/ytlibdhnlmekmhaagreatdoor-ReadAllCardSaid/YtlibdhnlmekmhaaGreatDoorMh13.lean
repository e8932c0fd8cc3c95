/- The contracts of the reference's List, Valid, Len and At. -/
import Derived.Test.YtlibdhnlmekmhaaGreatDoorMh09
import Derived.Test.YtlibdhnlmekmhaaGreatDoorMh12
namespace Go.Proofs.YtlibdhnlmekmhaaGreatDoor.LawBack
open Go.RowKit Go.Shelf Go.Lib
open Go.Proofs.YtlibdhnlmekmhaaGreatDoor.Utf Go.Proofs.YtlibdhnlmekmhaaGreatDoor.Strs Go.Proofs.YtlibdhnlmekmhaaGreatDoor.Lst Go.Proofs.YtlibdhnlmekmhaaGreatDoor.Chars Go.Proofs.YtlibdhnlmekmhaaGreatDoor.Txt
theorem IntSl.form {w : World} {v : Value} {R : List Int} (h : IntSl w v R) : ∃ A cap, v = .slice A R.length cap := by
  obtain ⟨A, cap, hv, _⟩ := h
  exact ⟨A, cap, hv⟩
theorem nil_reads (w : World) : IntSl w (.slice none 0 0) [] := ⟨none, 0, rfl, Nat.le_refl _, fun h => absurd h (by simp)⟩
end Go.Proofs.YtlibdhnlmekmhaaGreatDoor.LawBack
namespace Go.Proofs.YtlibdhnlmekmhaaGreatDoor.RefStrs
set_option maxRecDepth 100000
open Go.RowKit Go.Shelf Go.Lib
open Go.Proofs.YtlibdhnlmekmhaaGreatDoor.Utf Go.Proofs.YtlibdhnlmekmhaaGreatDoor.Strs Go.Proofs.YtlibdhnlmekmhaaGreatDoor.Cuts Go.Proofs.YtlibdhnlmekmhaaGreatDoor.RefChars Go.Proofs.YtlibdhnlmekmhaaGreatDoor.Chars Go.Proofs.YtlibdhnlmekmhaaGreatDoor.Lst Go.Proofs.YtlibdhnlmekmhaaGreatDoor.LawBack

/-- How long a string value is. -/
def strSz : Value → Nat
  | .string t => t.size
  | _ => 0

theorem drop_ext (t : ByteArray) (k : Nat) : (t.extract k t.size).data.toList = t.data.toList.drop k := ext_list t k

theorem list_ne (t : ByteArray) (h : 0 < t.size) : t.data.toList ≠ [] := by
  intro h0
  have := size_list t
  rw [h0] at this
  simp at this
  omega

theorem pt_split (t : ByteArray) (h : 0 < t.size) : (validD t.data.toList = false ∧ pt t = (0, 0)) ∨ (∃ c k : Nat, pt t = ((c : Int), (k : Int)) ∧ 1 ≤ k ∧ k ≤ t.size ∧ c ≤ 2147483647 ∧ runes t.data.toList = (c : Int) :: runes (t.extract k t.size).data.toList ∧ validD t.data.toList = validD (t.extract k t.size).data.toList) := by
  have hne := list_ne t h
  by_cases hb : (decodeL t.data.toList).1 = 65533 ∧ (decodeL t.data.toList).2 = 1
  · left
    refine ⟨?_, ?_⟩
    · rw [validD_step _ hne, if_pos hb]
    · unfold pt; rw [if_pos hb]
  · right
    refine ⟨(decodeL t.data.toList).1, (decodeL t.data.toList).2, ?_, decodeL_width _, ?_, ?_, ?_, ?_⟩
    · unfold pt; rw [if_neg hb]
    · have := decodeL_le _ hne
      rwa [size_list] at this
    · have h1 := from_decode t 0
      rw [from_zero] at h1
      rw [h1]
      exact decode_le t 0
    · rw [drop_ext]
      exact runes_step _ hne
    · rw [drop_ext, validD_step _ hne, if_neg hb]

/-- What the reference's List leaves. -/
def RefLists (w : World) (V : Bool) (R : List Int) (e : Ending) (w' : World) : Prop :=
  ((V = true ∧ ∃ v, e = .returned (.tuple #[v, .int .i64 0]) ∧ IntSl w' v R) ∨ (V = false ∧ e = .returned (.tuple #[.slice none 0 0, .int .i64 5]))) ∧ Below w.heap.size w w'

set_option maxHeartbeats 2000000 in
theorem ref_list (s : ByteArray) (w : World) (hs : s.size < 1000000) :
    Calls Tryz.prog 73 #[.string s] w (RefLists w (validD s.data.toList) (runes s.data.toList)) := by
  obtain ⟨R, hR⟩ : ∃ R, runes s.data.toList = R := ⟨_, rfl⟩
  obtain ⟨V, hV⟩ : ∃ V, validD s.data.toList = V := ⟨_, rfl⟩
  have HR0 : Hid (runes s.data.toList = R.drop 0) := hR
  have HV0 : Hid (validD s.data.toList = V) := hV
  have hRL : R.length ≤ s.size := by
    have := runes_length s.data.toList
    rwa [hR, size_list] at this
  obtain ⟨i0, hi, hz0, hz1, hz2⟩ := info_parts int_info
  have HI := Lib.hid hi
  have HZ0 := Lib.hid hz0
  have HZ1 := Lib.hid hz1
  have HZ2 := Lib.hid hz2
  have HP := Lib.hid (fun t W (h : t.size < 1000000) (h0 : 0 < t.size) => point_any t W h h0)
  rw [hR, hV]
  clear hi hz0 hz1 hz2 hR hV
  have hbase : w.heap.size ≤ w.heap.size := Nat.le_refl _
  have hb0 := Below.refl w.heap.size w
  have hown0 : w.ownsRow w.heap.size 3 1 (.slice none 0 0) 0 ([] : List Value) := ⟨by simp, .inl ⟨rfl, rfl⟩⟩
  go_enter Tryz.func73, Tryz.ntmps73
  go_wp2
  go_loopw [0, 4] (fun x v wr => ∃ (t : ByteArray) (k : Nat), x = .string t ∧ t.size ≤ s.size ∧ k ≤ R.length ∧ Hid (runes t.data.toList = R.drop k) ∧ Hid (validD t.data.toList = V) ∧ Below w.heap.size w wr ∧ wr.ownsRow w.heap.size 3 1 v k ((R.take k).map (Value.int .i64)) ∧ Hid (∃ ao cap, v = .slice ao k cap)) (fun x _ _ => strSz x)
  case atStart => exact ⟨s, 0, rfl, Nat.le_refl _, Nat.zero_le _, HR0, HV0, hb0, by rw [List.take_zero]; exact hown0, ⟨_, _, rfl⟩⟩
  case round =>
    obtain ⟨t, k, rfl, hts, hkR, HT, HVt, hbr, hownr, HF⟩ := hrel
    by_cases hp : 0 < t.size
    · have hpz : (0 : Int) < t.size := by omega
      have HPt := Lib.hid (fun W => HP.out t W (by omega) hp)
      have hspl := pt_split t hp
      rcases hspl with ⟨hbad, hpt⟩ | ⟨c, m, hpt, hm1, hm2, hc, hrun, hval⟩
      · have hVf : V = false := by rw [← HVt.out, hbad]
        rw [hpt] at HPt
        subst hVf
        clear hpt hbad HT HVt HP hownr HF HR0 HV0 hown0
        go_wp2_with (fail)
        refine (HPt.out _).mono ?_
        rintro e w1 ⟨rfl, q, rfl⟩
        go_wp2_with (fail)
        go_ret2
        exact show RefLists w false R _ _ from ⟨.inr ⟨rfl, rfl⟩, below_drewNv hbr q⟩
      · rw [hpt] at HPt
        have hrun2 := HT.out
        rw [hrun] at hrun2
        have hkR2 : k < R.length := by
          have := congrArg List.length hrun2
          simp at this
          omega
        have hRk : R.take (k + 1) = R.take k ++ [(c : Int)] := by
          have h2 : R[k]? = some (c : Int) := by rw [← List.head?_drop, ← hrun2]; rfl
          rw [List.take_add_one, h2]; rfl
        have hnext : Hid (runes (t.extract m t.size).data.toList = R.drop (k + 1)) := by
          show _ = _
          rw [← List.tail_drop, ← hrun2]
          rfl
        have hVn : Hid (validD (t.extract m t.size).data.toList = V) := by
          show _ = _
          rw [← hval, HVt.out]
        have hex : (t.extract m t.size).size = t.size - m := ext_size t m
        have HRk := Lib.hid hRk
        obtain ⟨ao, cap, rfl⟩ := HF.out
        clear hpt hrun hrun2 hval hRk HT HVt HP HF HR0 HV0 hown0
        have hne : ((m : Int) == 0) = false := by simp; omega
        have hmz : (m : Int) ≤ t.size := by omega
        go_wp2_with (fail)
        refine (HPt.out _).mono ?_
        rintro e w1 ⟨rfl, q, rfl⟩
        have hb1 : Below w.heap.size w (wr.drewN q) := below_drewNv hbr q
        have hown1 : (wr.drewN q).ownsRow w.heap.size 3 1 (.slice ao k cap) k ((R.take k).map (Value.int .i64)) := hownr
        generalize wr.drewN q = w1 at *
        clear HPt hbr hownr
        go_wp2_with (at_builtin; refine wpList_append_own _ rfl (.tmp 17) (.tmp 19) 50 rfl w.heap.size 3 i0 (.int .i64 0) 1 8 Tryz.underlying50 HI.out HZ0.out HZ1.out HZ2.out rfl (by decide) _ _ _ rfl (hown1.alloc _) ⟨w1.heap.size, 0, none⟩ 1 1 [.int .i64 c] rfl rfl ?c1 ?c2 ?c3 ?c4 ?c5 ?_)
        case c1 =>
          intro j u hj
          match j, hj with
          | 0, hj => simp at hj; subst hj; simp [Addr.add]
          | (j + 1), hj => simp at hj
        case c2 => intro u hu; simp at hu; subst hu; rfl
        case c3 => unfold maxLen; omega
        case c4 => omega
        case c5 => have := hb1.size; simp; omega
        intro v' w5 hown5 hgr5 _
        have hb5 : Below w.heap.size w w5 := (hb1.alloc hb1.size _).grown hgr5 (by have := hb1.size; simp; omega) (fun g hg => (hown1.lt g hg).1)
        have HV5 : Hid (∃ ao cap, v' = .slice ao (k + 1) cap) := by
          rcases hown5.2 with ⟨_, h0⟩ | ⟨g, cap, cur, hv, _⟩
          · omega
          · exact ⟨_, cap, hv⟩
        clear hgr5 hown1 hb1
        go_wp2
        go_roundw
        case rel => exact ⟨t.extract m t.size, k + 1, rfl, by omega, by omega, hnext, hVn, hb5, by rw [HRk.out, List.map_append, List.map_take]; exact hown5, HV5⟩
        case measure => show (t.extract m t.size).size < t.size; omega
    · have hpz : ¬ (0 : Int) < t.size := by omega
      have ht0 : t.data.toList = [] := by
        have := size_list t
        exact List.eq_nil_of_length_eq_zero (by omega)
      have hVt : V = true := by rw [← HVt.out, ht0]; rfl
      have HD := HT.out
      rw [ht0, runes_nil] at HD
      have hkl : R.length = k := by have := congrArg List.length HD; simp at this; omega
      have htake : R.take k = R := List.take_of_length_le (by omega)
      rw [htake] at hownr
      have HOw := Lib.hid (IntSl.of_own hownr)
      obtain ⟨ao, cap, rfl⟩ := HF.out
      subst hVt
      clear HD HT HVt HP ht0 htake hownr HF HR0 HV0 hown0
      go_wp2
      go_ret2
      exact show RefLists w true R _ _ from ⟨.inl ⟨rfl, _, rfl, HOw.out⟩, hbr⟩

theorem ref_list_yes (s : ByteArray) (w : World) (hs : s.size < 1000000) (hv : validD s.data.toList = true) :
    Calls Tryz.prog 73 #[.string s] w fun e w' => (∃ v, e = .returned (.tuple #[v, .int .i64 0]) ∧ IntSl w' v (runes s.data.toList)) ∧ Below w.heap.size w w' :=
  (ref_list s w hs).mono fun _ _ h => ⟨h.1.elim (fun k => k.2) (fun k => absurd (hv.symm.trans k.1) (by decide)), h.2⟩
theorem ref_list_no (s : ByteArray) (w : World) (hs : s.size < 1000000) (hv : validD s.data.toList = false) :
    Calls Tryz.prog 73 #[.string s] w fun e w' => e = .returned (.tuple #[.slice none 0 0, .int .i64 5]) ∧ Below w.heap.size w w' :=
  (ref_list s w hs).mono fun _ _ h => ⟨h.1.elim (fun k => absurd (hv.symm.trans k.1) (by decide)) (fun k => k.2), h.2⟩

/-- What the reference's List returns, as a slice and a code. -/
theorem ref_list_any (s : ByteArray) (w : World) (hs : s.size < 1000000) :
    Calls Tryz.prog 73 #[.string s] w fun e w' => (∃ A cap, e = .returned (.tuple #[.slice A (lenL s.data.toList) cap, .int .i64 (if validD s.data.toList = true then 0 else 5)]) ∧ IntSl w' (.slice A (lenL s.data.toList) cap) (if validD s.data.toList = true then runes s.data.toList else [])) ∧ Below w.heap.size w w' := by
  cases hv : validD s.data.toList
  · rw [show lenL s.data.toList = 0 by simp [lenL, hv]]
    refine (ref_list_no s w hs hv).mono ?_
    rintro e w' ⟨rfl, hb⟩
    exact ⟨⟨none, 0, rfl, nil_reads w'⟩, hb⟩
  · rw [show lenL s.data.toList = (runes s.data.toList).length by simp [lenL, hv]]
    refine (ref_list_yes s w hs hv).mono ?_
    rintro e w' ⟨⟨v, rfl, hi⟩, hb⟩
    obtain ⟨A, cap, rfl⟩ := IntSl.form hi
    exact ⟨⟨A, cap, rfl, hi⟩, hb⟩

theorem ref_valid (s : ByteArray) (w : World) (hs : s.size < 1000000) :
    Calls Tryz.prog 23 #[.string s] w fun e w' => e = .returned (.bool (validD s.data.toList)) ∧ Below w.heap.size w w' := by
  have H := Lib.hid (ref_list_any s w hs)
  generalize lenL s.data.toList = n at *
  generalize runes s.data.toList = R at *
  cases hv : validD s.data.toList
  · rw [hv] at H
    clear hv
    go_enter Tryz.func23, Tryz.ntmps23
    go_wp2_with (fail)
    refine H.out.mono ?_
    rintro e w1 ⟨⟨A, cap, rfl, _⟩, hb⟩
    go_wp2_with (fail)
    go_ret
    exact ⟨rfl, hb⟩
  · rw [hv] at H
    clear hv
    go_enter Tryz.func23, Tryz.ntmps23
    go_wp2_with (fail)
    refine H.out.mono ?_
    rintro e w1 ⟨⟨A, cap, rfl, _⟩, hb⟩
    go_wp2_with (fail)
    go_ret
    exact ⟨rfl, hb⟩

theorem ref_len (s : ByteArray) (w : World) (hs : s.size < 1000000) :
    Calls Tryz.prog 33 #[.string s] w fun e w' => e = .returned (.int .i64 (lenL s.data.toList)) ∧ Below w.heap.size w w' := by
  have H := Lib.hid (ref_list_any s w hs)
  generalize lenL s.data.toList = n at *
  generalize (if validD s.data.toList = true then runes s.data.toList else []) = R at *
  generalize (if validD s.data.toList = true then (0 : Int) else 5) = c at *
  go_enter Tryz.func33, Tryz.ntmps33
  go_wp2_with (fail)
  refine H.out.mono ?_
  rintro e w1 ⟨⟨A, cap, rfl, _⟩, hb⟩
  go_wp2_with (fail)
  go_ret
  exact ⟨rfl, hb⟩

end Go.Proofs.YtlibdhnlmekmhaaGreatDoor.RefStrs
