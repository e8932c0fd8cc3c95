/- NamesFull: the walk of the law. -/
import Derived.Test.YtcdlfgggmigcnaaDoorNtLives
import Derived.Test.YtcdlfgggmigcnaaDoorNtRef
import Derived.Test.YtcdlfgggmigcnaaDoorUtf2
namespace Go.Proofs.YtcdlfgggmigcnaaDoor.Nt
set_option maxRecDepth 100000
open Go.RowKit
open Go.Lib (validD)
open Go.Proofs.YtcdlfgggmigcnaaDoor.Own Go.Proofs.YtcdlfgggmigcnaaDoor.Strs Go.Proofs.YtcdlfgggmigcnaaDoor.NtRef

theorem lenL_size (s : ByteArray) : lenL s.data.toList ≤ s.size := by
  unfold lenL
  split
  · have := Utf.runes_length s.data.toList
    have e : s.size = s.data.toList.length := by simp
    omega
  · omega
theorem good_of (s : ByteArray) (hv : validD s.data.toList = true) (hs : s.size ≤ 1000) : Good s := ⟨hv, Nat.le_trans (lenL_size s) hs⟩
theorem joinL (s t : ByteArray) : (s ++ t).data.toList = s.data.toList ++ t.data.toList := by simp

/-- What Intern does with a good name where there is room. -/
theorem internO_good {t : Tb} {s : ByteArray} (hg : Good s) (hm : t.syms.length < 16384) : ∃ (n : Nat) (t' : Tb), internO t s = ((n : Int), 0, t') ∧ t'.find s = some n ∧ t.syms.length ≤ t'.syms.length ∧ t'.syms.length ≤ t.syms.length + 1 ∧ ∀ u, u ≠ s → t'.find u = t.find u := by
  cases hf : t.find s with
  | some n => exact ⟨n, t, by unfold internO; rw [hf], hf, Nat.le_refl _, by omega, fun _ _ => rfl⟩
  | none => exact ⟨t.syms.length, _, internO_new hf hg hm, by simp [upd], by simp, by simp, fun u hu => by simp [upd, hu]⟩

def ex : ByteArray := ⟨#[33]⟩
def xx : ByteArray := ⟨#[120]⟩
theorem xx_good : Good xx := by
  have h : (validD xx.data.toList && decide (lenL xx.data.toList ≤ 1000)) = true := by kernel_rfl
  simp only [Bool.and_eq_true, decide_eq_true_eq] at h
  exact h
/-- No fixed name ends in an exclamation mark. -/
theorem no_bang (s : ByteArray) : t0.find (s ++ ex) = none := by
  refine idx_none fun h => ?_
  have h1 : (fx.all fun x => !(x.data.toList.getLast? == some 33)) = true := by kernel_rfl
  have h2 := List.all_eq_true.1 h1 _ h
  rw [joinL] at h2
  simp [ex] at h2
theorem bang_ne (s : ByteArray) : s ++ ex ≠ s := by
  intro h
  have := congrArg ByteArray.size h
  rw [ByteArray.size_append] at this
  have e : ex.size = 1 := rfl
  omega

/-- Texts that are not considered. -/
theorem full_light (s : ByteArray) (w : World) (hs : s.size ≤ maxLen) (hT : Tabs w) (h : 300 < s.size ∨ validD s.data.toList = false) :
    Calls Tryd.prog 13 #[.string s] w fun e w' => e = .returned (.bool true) ∧ Below w.heap.size w w' := by
  have HL := Lib.hid (lives_any w hT)
  unfold maxLen at hs
  by_cases h3 : 300 < s.size
  · have hz : (300 : Int) < s.size := by omega
    clear h
    go_enter Tryd.func13, Tryd.ntmps13
    go_wp2_with fail
    refine HL.out.mono ?_
    rintro e w1 ⟨rfl, hb1⟩
    go_wp2_with fail
    go_ret
    exact ⟨rfl, hb1⟩
  · have hz : ¬ (300 : Int) < s.size := by omega
    have hv : validD s.data.toList = false := by rcases h with h | h; exact absurd h h3; exact h
    have HV := Lib.hid (fun W => ref_valid s W (by omega))
    rw [hv] at HV
    clear h hv
    go_enter Tryd.func13, Tryd.ntmps13
    go_wp2_with fail
    refine HL.out.mono ?_
    rintro e w1 ⟨rfl, hb1⟩
    go_wp2_with fail
    refine (HV.out _).mono ?_
    rintro e w2 ⟨rfl, hb2⟩
    go_wp2_with fail
    go_ret
    exact ⟨rfl, hb1.trans (hb2.mono hb1.size)⟩

set_option maxHeartbeats 4000000 in
theorem full_core (s : ByteArray) (w : World) (hs : s.size ≤ 300) (hT : Tabs w) (hv : validD s.data.toList = true) :
    Calls Tryd.prog 13 #[.string s] w fun e w' => e = .returned (.bool true) ∧ Below w.heap.size w w' := by
  have HL := Lib.hid (lives_any w hT)
  have HT := Lib.hid hT
  have hz : ¬ (300 : Int) < s.size := by omega
  have HV := Lib.hid (fun W => ref_valid s W (by omega))
  rw [hv] at HV
  have hg := good_of s hv (by omega)
  have hg2 : Good (s ++ ex) := good_of _ (by rw [joinL, Utf.valid_join _ _ hv]; kernel_rfl) (by rw [ByteArray.size_append]; have e : ex.size = 1 := rfl; omega)
  obtain ⟨n, ts, hi, hf, hl1, hl2, ho⟩ := internO_good (t := t0) hg (by rw [t0_length]; omega)
  rw [t0_length] at hl1 hl2
  have hfb : ts.find (s ++ ex) = none := by rw [ho _ (bang_ne s), no_bang]
  have HG := Lib.hid hg
  have HG2 := Lib.hid hg2
  have HI := Lib.hid hi
  have HF := Lib.hid hf
  have HFb := Lib.hid hfb
  clear hT hv hg hg2 hi hf ho hfb
  go_enter Tryd.func13, Tryd.ntmps13
  go_wp2_with fail
  refine HL.out.mono ?_
  rintro e w1 ⟨rfl, hb1⟩
  have HB1 := Lib.hid hb1
  have HT1 := Lib.hid (HT.out.below hb1)
  clear hb1
  go_wp2_with fail
  refine (HV.out _).mono ?_
  rintro e w2 ⟨rfl, hb2⟩
  have HB2 := Lib.hid (HB1.out.trans (hb2.mono HB1.out.size))
  have HT2 := Lib.hid (HT1.out.below hb2)
  have HN := Lib.hid (St.new w2 HT2.out)
  clear hb2 HB1 HT1
  obtain ⟨tp, htp⟩ : ∃ tp, w2.heap.size + 1 = tp := ⟨_, rfl⟩
  rw [htp] at HN
  clear htp
  go_wp2_with fail
  refine HN.out.mono ?_
  rintro e w3 ⟨rfl, h3⟩
  have c1 := h3.intern HT2.out s (by omega)
  rw [HI.out] at c1
  have C1 := Lib.hid c1
  clear h3 c1
  go_wp2_with fail
  refine C1.out.mono ?_
  rintro e w4 ⟨rfl, h4⟩
  have H4 := Lib.hid h4
  have C2 := Lib.hid h4.many
  clear h4 C1
  go_wp2_with fail
  refine C2.out.mono ?_
  rintro e w5 ⟨rfl, rfl⟩
  have HL2 := Lib.hid (And.intro hl1 hl2)
  clear C2 hl1 hl2
  go_wp2_with fail
  go_loopw [6] (fun i wr => ∃ (k : Nat) (t : Tb), i = .int .i64 (k : Int) ∧ k ≤ 16384 ∧ Hid (St w2 wr tp t) ∧ Hid (t.syms.length = k) ∧ Hid (t.find = ts.find)) (fun i _ => 16384 - (intOf i).toNat)
  case atStart => exact ⟨_, ts, rfl, by have := HL2.out.2; omega, H4, rfl, rfl⟩
  case round =>
    obtain ⟨k, t, rfl, hk, HS, HK, HFi⟩ := hrel
    by_cases hlt : k < 16384
    · have hkz : (k : Int) < 16384 := by omega
      have c1 := HS.out.fresh HT2.out xx (by decide)
      rw [freshO_new xx_good (by rw [HK.out]; exact hlt), HK.out] at c1
      have C1 := Lib.hid c1
      have HK2 := Lib.hid (show (⟨t.syms ++ [newSy xx], t.find⟩ : Tb).syms.length = k + 1 by rw [List.length_append, HK.out]; rfl)
      clear c1
      go_wp2_with fail
      refine C1.out.mono ?_
      rintro e w6 ⟨rfl, h6⟩
      have H6 := Lib.hid h6
      clear h6
      go_wp2_with fail
      go_roundw
      case rel => exact ⟨k + 1, _, by go_num, by omega, H6, HK2, HFi⟩
      case measure => simp [intOf]; omega
    · obtain rfl : k = 16384 := by omega
      have hfull : ∀ u, Good u → freshO t u = (0, 7, t) := fun u hu => by
        unfold freshO
        rw [if_neg (by rw [hu.1]; simp), if_neg (by have := hu.2; omega), if_pos (by rw [HK.out]; exact Nat.le_refl _)]
      have c1 := HS.out.fresh HT2.out s (by omega)
      rw [hfull s HG.out] at c1
      have C1 := Lib.hid c1
      have hin : internO t s = ((n : Int), 0, t) := by
        unfold internO
        rw [HFi.out, HF.out]
      have hin2 : internO t (s ++ ex) = (0, 7, t) := by
        unfold internO
        rw [HFi.out, HFb.out]
        simp only
        rw [if_neg (by rw [hfull _ HG2.out]; simp), hfull _ HG2.out]
      have HIn := Lib.hid hin
      have HIn2 := Lib.hid hin2
      clear c1 hfull hin hin2
      go_wp2_with fail
      refine C1.out.mono ?_
      rintro e w6 ⟨rfl, h6⟩
      have c2 := h6.intern HT2.out s (by omega)
      rw [HIn.out] at c2
      have C2 := Lib.hid c2
      clear h6 c2 C1
      go_wp2_with fail
      refine C2.out.mono ?_
      rintro e w7 ⟨rfl, h7⟩
      have c3 := h7.intern HT2.out (s ++ ex) (by rw [ByteArray.size_append]; have e : ex.size = 1 := rfl; omega)
      rw [HIn2.out] at c3
      have C3 := Lib.hid c3
      clear h7 c3 C2
      go_wp2_with fail
      refine C3.out.mono ?_
      rintro e w8 ⟨rfl, h8⟩
      have c4 := h8.many
      rw [HK.out] at c4
      have C4 := Lib.hid c4
      have H8 := Lib.hid (HB2.out.trans (h8.bel.mono HB2.out.size))
      clear h8 c4 C3
      go_wp2_with fail
      refine C4.out.mono ?_
      rintro e w9 ⟨rfl, rfl⟩
      go_wp2_with fail
      go_ret
      exact ⟨rfl, H8.out⟩
theorem full_walk (s : ByteArray) (w : World) (hs : s.size ≤ maxLen) (hT : Tabs w) :
    Calls Tryd.prog 13 #[.string s] w fun e w' => e = .returned (.bool true) ∧ Below w.heap.size w w' := by
  by_cases h : 300 < s.size ∨ validD s.data.toList = false
  · exact full_light s w hs hT h
  · exact full_core s w (by omega) hT (by
      cases hv : validD s.data.toList
      · exact absurd (.inr hv) h
      · rfl)
end Go.Proofs.YtcdlfgggmigcnaaDoor.Nt
