/- NamesNames: the walk of the law. -/
import Derived.Test.YtcdlfgggmigcnaaDoorNtKit
import Derived.Test.YtcdlfgggmigcnaaDoorNtFull
namespace Go.Proofs.YtcdlfgggmigcnaaDoor.Nt
set_option maxRecDepth 100000
open Go.RowKit
open Go.Lib (validD)
open Go.Proofs.YtcdlfgggmigcnaaDoor.Own Go.Proofs.YtcdlfgggmigcnaaDoor.Strs

theorem flat_valid (n : Nat) (l : List UInt8) (h : validD l = true) : validD (flat n l) = true ∧ (Utf.runes (flat n l)).length = n * (Utf.runes l).length := by
  induction n with
  | zero => exact ⟨by unfold flat; simp; rfl, by unfold flat; simp; rfl⟩
  | succ n ih =>
    have e : flat (n + 1) l = l ++ flat n l := by unfold flat; rw [List.replicate_succ, List.flatten_cons]
    rw [e, Utf.valid_join _ _ h, Utf.runes_join _ _ h, List.length_append, ih.2]
    refine ⟨ih.1, ?_⟩
    rw [Nat.add_mul, Nat.one_mul]
    omega
theorem flat_len (n : Nat) (s R : ByteArray) (h : validD s.data.toList = true) (hR : R.data.toList = flat n s.data.toList) : validD R.data.toList = true ∧ lenL R.data.toList = n * (Utf.runes s.data.toList).length := by
  obtain ⟨h1, h2⟩ := flat_valid n _ h
  rw [hR]
  refine ⟨h1, ?_⟩
  unfold lenL
  rw [if_pos h1, h2]

def sa : ByteArray := ⟨#[97]⟩
def se : ByteArray := ⟨#[195, 169]⟩
def sff : ByteArray := ⟨#[255]⟩
theorem sa_valid : validD sa.data.toList = true ∧ (Utf.runes sa.data.toList).length = 1 := by
  have h : (validD sa.data.toList && ((Utf.runes sa.data.toList).length == 1)) = true := by kernel_rfl
  rw [Bool.and_eq_true, beq_iff_eq] at h
  exact h
theorem se_valid : validD se.data.toList = true ∧ (Utf.runes se.data.toList).length = 1 := by
  have h : (validD se.data.toList && ((Utf.runes se.data.toList).length == 1)) = true := by kernel_rfl
  rw [Bool.and_eq_true, beq_iff_eq] at h
  exact h
theorem sff_not : validD sff.data.toList = false := by kernel_rfl
theorem fx_small : ∀ s ∈ fx, s.size ≤ 30 := by
  have h : (fx.all fun s => decide (s.size ≤ 30)) = true := by kernel_rfl
  intro s hs
  simpa using List.all_eq_true.1 h s hs
theorem long_none (R : ByteArray) (h : 30 < R.size) : t0.find R = none := idx_none fun hm => by have := fx_small R hm; omega
theorem ff_intern : internO t0 sff = (0, 5, t0) := by
  have hf : t0.find sff = none := by kernel_rfl
  have hfr : freshO t0 sff = (0, 5, t0) := by unfold freshO; rw [if_pos sff_not]
  unfold internO
  rw [hf]
  simp only
  rw [if_neg (by rw [hfr]; simp), hfr]
theorem fx_at (k : Nat) (s : ByteArray) (h : fx[k]? = some s) : t0.find s = some k ∧ nameO t0 (k : Int) = (s, true) ∧ internedO t0 (k : Int) = true := by
  have hf : t0.find s = some k := idx_at fx_nodup h
  have hs : symO t0 (k : Int) = some (newSy s) := by
    rw [symO_nat]
    show (fx.map newSy)[k]? = _
    rw [List.getElem?_map, h]
    rfl
  refine ⟨hf, ?_, ?_⟩
  · unfold nameO
    rw [hs]
    rfl
  · unfold internedO
    rw [hs]
    simp only [newSy]
    rw [hf]
    simp

set_option maxHeartbeats 4000000 in
theorem names_walk (w : World) (hT : Tabs w) : Calls Tryd.prog 8 #[] w fun e w' => e = .returned (.bool true) ∧ Below w.heap.size w w' := by
  have HL := Lib.hid (lives_any w hT)
  have HT := Lib.hid hT
  clear hT
  go_enter Tryd.func8, Tryd.ntmps8
  go_wp2_with fail
  refine HL.out.mono ?_
  rintro e w1 ⟨rfl, hb1⟩
  have HB1 := Lib.hid hb1
  have HT1 := Lib.hid (HT.out.below hb1)
  have HNew := Lib.hid (new_any w1 HT1.out)
  clear hb1
  obtain ⟨tp, htp⟩ : ∃ tp, w1.heap.size + 1 = tp := ⟨_, rfl⟩
  rw [htp] at HNew
  clear htp
  go_wp2_with fail
  refine HNew.out.mono ?_
  rintro e w2 ⟨rfl, hb2, lab, P, hI2⟩
  obtain ⟨bf, hbl, hfx⟩ : ∃ bf, lab bf = none ∧ Calls Tryd.prog 44 #[] w2 (fun e w' => e = .returned (.slice (some ⟨bf, 0, none⟩) 62 62) ∧ Row w' bf (fx.map Value.string) ∧ Below w2.heap.size w2 w') := ⟨w2.heap.size, hI2.fresh (Nat.le_refl _), fixed_any w2⟩
  have HFx := Lib.hid hfx
  have HI2 := Lib.hid hI2
  have HB2 := Lib.hid hb2
  have HLb := Lib.hid hbl
  clear hb2 hI2 hfx hbl
  go_wp2_with fail
  refine HFx.out.mono ?_
  rintro e w3 ⟨rfl, hr3, hb3⟩
  have HI3 := Lib.hid (HI2.out.below hb3)
  have HB3 := Lib.hid (HB2.out.trans (hb3.mono HB2.out.size))
  have HR3 := Lib.hid hr3
  clear hb3 hr3 HI2 HB2 HFx
  go_wp2_with fail
  go_loopw [3] (fun i wr => ∃ (k : Nat), i = .int .i64 (k : Int) ∧ k ≤ 62 ∧ Hid (TabIs wr w1.heap.size tp t0 lab P) ∧ Hid (Below w1.heap.size w1 wr) ∧ Hid (Row wr bf (fx.map Value.string))) (fun i _ => 62 - (intOf i).toNat)
  case atStart => exact ⟨0, rfl, Nat.zero_le _, HI3, HB3, HR3⟩
  case round =>
    obtain ⟨k, rfl, hk, HI, HB, HR⟩ := hrel
    by_cases hlt : k < 62
    · have hltz : (k : Int) < 62 := by omega
      obtain ⟨s, hs⟩ : ∃ s, fx[k]? = some s := ⟨fx[k]'(by rw [fx_length]; exact hlt), List.getElem?_eq_getElem _⟩
      have c0 := HR.out.cell k (.string s) (by rw [List.getElem?_map, hs]; rfl)
      obtain ⟨hf, hn, hi⟩ := fx_at k s hs
      have cn := name_any HI.out (k : Int)
      rw [hn] at cn
      have ci := intern_hit HI.out s (by have := fx_small s (List.mem_of_getElem? hs); unfold maxLen; omega) k hf
      have cd := interned_any HI.out (k : Int)
      rw [hi] at cd
      have CN := Lib.hid cn
      have CI := Lib.hid ci
      have CD := Lib.hid cd
      clear cn ci cd hs hf hn hi
      go_wp2_with fail
      refine CN.out.mono ?_
      rintro e w4 ⟨rfl, rfl⟩
      go_wp2_with fail
      refine CI.out.mono ?_
      rintro e w4 ⟨rfl, rfl⟩
      go_wp2_with fail
      refine CD.out.mono ?_
      rintro e w4 ⟨rfl, hb4⟩
      have HI4 := Lib.hid (HI.out.below hb4)
      have HB4 := Lib.hid (HB.out.trans (hb4.mono HB.out.size))
      have HR4 := Lib.hid (HR.out.below hb4)
      clear hb4 c0
      go_wp2_with fail
      go_roundw
      case rel => exact ⟨k + 1, by go_num, by omega, HI4, HB4, HR4⟩
      case measure => simp [intOf]; omega
    · obtain rfl : k = 62 := by omega
      have ci := intern_any HI.out HB.out.size sff (by decide) (HT1.out.below HB.out)
      rw [ff_intern] at ci
      have CI := Lib.hid ci
      have CT := Lib.hid (times_any sa 1001)
      clear ci
      go_wp2_with fail
      refine CI.out.mono ?_
      rintro e w4 ⟨rfl, lab4, P4, hI4, hA4⟩
      have hB4 := HB.out.trans (hA4.bel HI.out HB.out.size)
      have HI4 := Lib.hid hI4
      have HB4 := Lib.hid hB4
      clear hI4 hA4 hB4 CI HI HB HR
      go_wp2_with fail
      refine (CT.out _ (by decide) (by omega)).mono ?_
      rintro e w5 ⟨⟨R1, rfl, hR1⟩, rfl⟩
      obtain ⟨v1, l1⟩ := flat_len 1001 sa R1 sa_valid.1 hR1
      rw [sa_valid.2] at l1
      have hsz1 : R1.size = 1001 := by
        have h1 := congrArg List.length hR1
        rw [flat_length] at h1
        have e : sa.data.toList.length = 1 := rfl
        rw [e] at h1
        have e2 : R1.data.toList.length = R1.size := by simp
        omega
      have cf := fresh_any HI4.out HB4.out.size R1 (by omega) (HT1.out.below HB4.out)
      rw [show freshO t0 R1 = (0, 4, t0) by unfold freshO; rw [if_neg (by rw [v1]; simp), if_pos (by omega)]] at cf
      have CF := Lib.hid cf
      clear cf v1 l1 hsz1 hR1 CT
      go_wp2_with fail
      refine CF.out.mono ?_
      rintro e w6 ⟨rfl, lab6, P6, hI6, hA6, _⟩
      have HI6 := Lib.hid hI6
      have HB6 := Lib.hid (HB4.out.trans (hA6.bel HI4.out HB4.out.size))
      have CT := Lib.hid (times_any se 1000)
      clear hI6 hA6 CF HI4 HB4
      go_wp2_with fail
      refine (CT.out _ (by decide) (by omega)).mono ?_
      rintro e w7 ⟨⟨R2, rfl, hR2⟩, rfl⟩
      obtain ⟨v2, l2⟩ := flat_len 1000 se R2 se_valid.1 hR2
      rw [se_valid.2] at l2
      have hsz2 : R2.size = 2000 := by
        have h1 := congrArg List.length hR2
        rw [flat_length] at h1
        have e : se.data.toList.length = 2 := rfl
        rw [e] at h1
        have e2 : R2.data.toList.length = R2.size := by simp
        omega
      have ci := intern_any HI6.out HB6.out.size R2 (by omega) (HT1.out.below HB6.out)
      rw [internO_new (long_none R2 (by omega)) ⟨v2, by omega⟩ (by rw [t0_length]; omega), t0_length] at ci
      have CI := Lib.hid ci
      obtain ⟨t', ht'⟩ : ∃ t' : Tb, (⟨t0.syms ++ [newSy R2], upd t0.find R2 62⟩ : Tb) = t' := ⟨_, rfl⟩
      have hl' : t'.syms.length = 63 := by rw [← ht', List.length_append, t0_length]; rfl
      have hs1 : ∃ s, symO t' 1 = some s := ⟨_, by rw [show (1 : Int) = ((1 : Nat) : Int) from rfl, symO_nat]; exact List.getElem?_eq_getElem (by omega)⟩
      have hs100 : symO t' 100 = none := by rw [show (100 : Int) = ((100 : Nat) : Int) from rfl, symO_nat]; exact List.getElem?_eq_none (by omega)
      rw [ht'] at CI
      have HL' := Lib.hid (And.intro hl' (And.intro hs1 hs100))
      clear ci v2 l2 hsz2 hR2 CT ht' hl' hs1 hs100
      go_wp2_with fail
      refine CI.out.mono ?_
      rintro e w8 ⟨rfl, lab8, P8, hI8, hA8⟩
      have HI8 := Lib.hid hI8
      have HB8 := Lib.hid (HB6.out.trans (hA8.bel HI6.out HB6.out.size))
      have cn := name_any hI8 (-1)
      rw [show nameO t' (-1) = (⟨#[]⟩, false) from rfl] at cn
      have CN := Lib.hid cn
      clear hI8 hA8 cn CI HI6 HB6
      go_wp2_with fail
      refine CN.out.mono ?_
      rintro e w9 ⟨rfl, rfl⟩
      go_wp2_with fail
      refine (intern_null _ _).mono ?_
      rintro e w9 ⟨rfl, rfl⟩
      have cm := many_any HI8.out
      rw [HL'.out.1] at cm
      have CM := Lib.hid cm
      clear cm CN
      go_wp2_with fail
      refine CM.out.mono ?_
      rintro e w9 ⟨rfl, rfl⟩
      go_wp2_with fail
      refine (nil_any _).mono ?_
      rintro e w10 ⟨rfl, hb10⟩
      have HI10 := Lib.hid (HI8.out.below hb10)
      have HB10 := Lib.hid (HB8.out.trans (hb10.mono HB8.out.size))
      clear hb10 CM HI8 HB8
      go_wp2_with fail
      refine (setFunc_null 3 (1, 0) _).mono ?_
      rintro e w11 ⟨rfl, hb11⟩
      have HI11 := Lib.hid (HI10.out.below hb11)
      have HB11 := Lib.hid (HB10.out.trans (hb11.mono HB10.out.size))
      clear hb11 HI10 HB10
      go_wp2_with fail
      refine (many_null _).mono ?_
      rintro e w12 ⟨rfl, rfl⟩
      go_wp2_with fail
      refine (copy_null _).mono ?_
      rintro e w12 ⟨rfl, rfl⟩
      go_wp2_with fail
      refine (int_any 5 _).mono ?_
      rintro e w13 ⟨rfl, hb13⟩
      have hI13 := HI11.out.below hb13
      have HB13 := Lib.hid (HB11.out.trans (hb13.mono HB11.out.size))
      have cd := setFunc_any hI13 1 (0, 5)
      obtain ⟨s1, hs1⟩ := HL'.out.2.1
      rw [show defineO t' 1 (0, 5) true = (10, t') by unfold defineO; rw [hs1]; rfl] at cd
      have CD := Lib.hid cd
      have HI13 := Lib.hid hI13
      clear hb13 hI13 cd hs1 HI11 HB11
      go_wp2_with fail
      refine CD.out.mono ?_
      rintro e w14 ⟨rfl, lab14, P14, hI14, hA14⟩
      have HI14 := Lib.hid hI14
      have HB14 := Lib.hid (HB13.out.trans (hA14.bel HI13.out HB13.out.size))
      clear hI14 hA14 CD HI13 HB13
      go_wp2_with fail
      refine (int_any 5 _).mono ?_
      rintro e w15 ⟨rfl, hb15⟩
      have hI15 := HI14.out.below hb15
      have HB15 := Lib.hid (HB14.out.trans (hb15.mono HB14.out.size))
      have cd := setFunc_any hI15 100 (0, 5)
      rw [show defineO t' 100 (0, 5) true = (8, t') by unfold defineO; rw [HL'.out.2.2]] at cd
      have CD := Lib.hid cd
      have HI15 := Lib.hid hI15
      clear hb15 hI15 cd HI14 HB14
      go_wp2_with fail
      refine CD.out.mono ?_
      rintro e w16 ⟨rfl, lab16, P16, hI16, hA16⟩
      have HB16 := Lib.hid (HB1.out.trans ((HB15.out.trans (hA16.bel HI15.out HB15.out.size)).mono HB1.out.size))
      clear hI16 hA16 CD HI15 HB15
      go_wp2_with fail
      go_ret
      exact ⟨rfl, HB16.out⟩
end Go.Proofs.YtcdlfgggmigcnaaDoor.Nt
