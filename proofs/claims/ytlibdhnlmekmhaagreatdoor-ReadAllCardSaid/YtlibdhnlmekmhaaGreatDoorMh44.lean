/- ReadBehind: the walk of the statement. -/
import Derived.Test.YtlibdhnlmekmhaaGreatDoorMh15
import Derived.Test.YtlibdhnlmekmhaaGreatDoorMh36
import Derived.Test.YtlibdhnlmekmhaaGreatDoorMh43
namespace Go.Proofs.YtlibdhnlmekmhaaGreatDoor.Rd
set_option maxRecDepth 100000
open Go.RowKit Go.Maps Go.Lib
open Go.Proofs.YtlibdhnlmekmhaaGreatDoor.Own Go.Proofs.YtlibdhnlmekmhaaGreatDoor.Hp Go.Proofs.YtlibdhnlmekmhaaGreatDoor.Rep Go.Proofs.YtlibdhnlmekmhaaGreatDoor.Get Go.Proofs.YtlibdhnlmekmhaaGreatDoor.Add Go.Proofs.YtlibdhnlmekmhaaGreatDoor.Make Go.Proofs.YtlibdhnlmekmhaaGreatDoor.Utf Go.Proofs.YtlibdhnlmekmhaaGreatDoor.Strs Go.Proofs.YtlibdhnlmekmhaaGreatDoor.Clone Go.Proofs.YtlibdhnlmekmhaaGreatDoor.Car Go.Proofs.YtlibdhnlmekmhaaGreatDoor.Kit
open Go.Proofs.YtlibdhnlmekmhaaGreatDoor.Nt hiding Wd

theorem NS.many {w wr : World} {lim tp : Nat} {ob : Obs} {tb : Tb} {bs : List Bx} (h : NS w wr lim tp ob tb bs) :
    Reads wr 25 #[ptr w.heap.size] (.int .i64 (manyTo ob lim : Int)) := by
  intro w1 hb
  obtain ⟨F, hH, _⟩ := h.st
  obtain ⟨lh, lt, PH, PT, hH, hT, hd, hF⟩ := (hH.below hb).is
  refine (Quick.many_any hH).mono ?_
  rintro e w' ⟨rfl, q, rfl⟩
  exact ⟨rfl, ⟨rfl, rfl, rfl, Nat.le_refl _, fun _ _ => rfl⟩⟩
theorem NS.tmany {w wr : World} {lim tp : Nat} {ob : Obs} {tb : Tb} {bs : List Bx} (h : NS w wr lim tp ob tb bs) :
    Reads wr 26 #[tptr tp] (.int .i64 (tb.syms.length : Int)) := by
  intro w1 hb
  obtain ⟨F, hH, _⟩ := h.st
  obtain ⟨lh, lt, PH, PT, hH, hT, hd, hF⟩ := (hH.below hb).is
  refine (Nt.many_any hT).mono ?_
  rintro e w' ⟨rfl, rfl⟩
  exact ⟨rfl, Below.refl _ _⟩
theorem many_none (lim : Nat) : manyTo Quick.noObs lim = 0 := (manyTo_more Quick.noObs 0 lim (by omega) (fun _ _ => rfl)).trans rfl
theorem used_none (lim : Nat) : usedTo Quick.noObs lim = 0 := by
  induction lim with
  | zero => rfl
  | succ n ih => unfold usedTo; rw [ih]; rfl
/-- Room in a new heap. -/
theorem room_new {L : List Int} {lim : Nat} (h : 2 * L.length ≤ lim) (hl : L.length ≤ 10000) : Ro lim ⟨L, Quick.noObs, t0⟩ := by
  refine ⟨?_, ?_, ?_, ?_⟩
  · show manyTo Quick.noObs lim + _ ≤ _
    rw [many_none]
    show 0 + 2 * L.length ≤ lim
    omega
  · show usedTo Quick.noObs lim + 4 * L.length ≤ 1048576
    rw [used_none]
    omega
  · show t0.syms.length + L.length ≤ 16384
    rw [t0_length]
    omega
  · show L.length ≤ 65536
    omega
theorem read_code {lim : Nat} {L : List Int} {ob : Obs} {tb : Tb} (h : Ro lim ⟨L, ob, tb⟩) : (readR lim L 0 ob tb).c ≠ 7 ∧ ((readR lim L 0 ob tb).c ≠ 0 → (readR lim L 0 ob tb).x = (0, 0) ∧ (readR lim L 0 ob tb).en = 0) := by
  unfold readR
  rw [if_neg (by omega)]
  simp only [Int.toNat_zero, List.drop_zero]
  split
  · exact ⟨by show (13 : Int) ≠ 7; decide, fun _ => ⟨rfl, rfl⟩⟩
  · have hf := form_room (k := 2 * L.length + 1) (o := 0) (h.le (skipF_suf L false).length_le)
    cases hq : formM lim (2 * L.length + 1) 0 ⟨skipF false L, ob, tb⟩ with
    | err c m ob' tb' =>
      rw [hq] at hf
      have hf' : Er c := hf
      refine ⟨?_, fun _ => ⟨rfl, rfl⟩⟩
      show c ≠ 7
      intro e
      subst e
      exact absurd hf' (by decide)
    | ok x s => exact ⟨by show (0 : Int) ≠ 7; decide, fun hc => (hc rfl).elim⟩
theorem NS.read_no {w wr : World} {lim tp : Nat} {ob : Obs} {tb : Tb} {bs : List Bx} (h : NS w wr lim tp ob tb bs) (hS : Sys w) (h1 : 0 < tb.syms.length) (u : ByteArray) (hu : u.size < 1000000) (hv : validD u.data.toList = false) (at_ : Int) :
    Calls Tryz.prog 16 #[ptr w.heap.size, tptr tp, .string u, .int .i64 at_] wr fun e w' => e = .returned (.tuple #[wd (0, 0), .int .i64 0, .agg #[.int .i64 5, .int .i64 0]]) ∧ NS w w' lim tp ob tb bs := by
  obtain ⟨F, hH, h2⟩ := h.st
  refine (Rd.read_no hH (hS.tabs.below h.below) h1 u hu hv at_).mono ?_
  rintro e w' ⟨rfl, hok⟩
  exact ⟨rfl, h.act hH h2 hok⟩
theorem ans_eta {A : Ans} {n : Int} (h1 : A.en = n) (h2 : A.c = 0) (h3 : A.k = 0) : A = ⟨A.x, n, 0, 0, A.ob, A.tb⟩ := by
  cases A
  simp only at h1 h2 h3
  subst h1 h2 h3
  rfl
/-- What the first Read gives: an error, or a form that a blank may end. -/
theorem first_read (s : ByteArray) (hs : s.size ≤ 1500) :
    (∃ c k ob' tb', c ≠ 0 ∧ RStep 3200 s 0 Quick.noObs t0 (0, 0) 0 c k ob' tb') ∨
    (validD s.data.toList = true ∧ ∃ (x : Wd) (n : Nat) (ob' : Obs) (tb' : Tb), n ≤ (runes s.data.toList).length ∧ RStep 3200 s 0 Quick.noObs t0 x n 0 0 ob' tb' ∧
      ∀ B : List Int, (∀ c ∈ B, isC c) → B.length ≤ 1500 → ∀ S : ByteArray, S.data.toList = enc ((runes s.data.toList).take n ++ 32 :: B) → RStep 3200 S 0 Quick.noObs t0 x n 0 0 ob' tb') := by
  have h0 : 0 < t0.syms.length := by rw [t0_length]; omega
  cases hv : validD s.data.toList with
  | false => exact .inl ⟨5, 0, Quick.noObs, t0, by decide, fun w wr tp bs hS h => h.read_no hS h0 s (by omega) hv 0⟩
  | true =>
    have hl := runes_length s.data.toList
    rw [← Lib.size_eq] at hl
    have hC := isC_runes _ hv
    obtain ⟨L, hL⟩ : ∃ L, runes s.data.toList = L := ⟨_, rfl⟩
    rw [hL] at hl hC ⊢
    have hro := room_new (L := L) (lim := 3200) (by omega) (by omega)
    obtain ⟨h7, he⟩ := read_code hro
    by_cases hc : (readR 3200 L 0 Quick.noObs t0).c = 0
    · right
      obtain ⟨n, hn, e1, e2, e3⟩ := read_behind (B := []) hro hc
      refine ⟨rfl, (readR 3200 L 0 Quick.noObs t0).x, n, _, _, hn, RStep.of h0 (by omega) hv (by rw [hL]) (by rw [e1, e2, hc]) (by decide), ?_⟩
      intro B hB hBl S hS
      obtain ⟨n', hn', e1', e2', e3'⟩ := read_behind (B := B) hro hc
      have hnn : n' = n := by rw [e1] at e1'; omega
      rw [hnn] at e3'
      refine RStep.enc hS ?_ (by simp; omega) h0 (e3'.trans ?_) (by decide)
      · intro c hc'
        rcases List.mem_append.1 hc' with h | h
        · exact hC c (List.mem_of_mem_take h)
        · rcases List.mem_cons.1 h with rfl | h
          · exact ⟨by omega, by omega, .inl (by omega)⟩
          · exact hB c h
      · exact ans_eta e1 hc e2
    · left
      obtain ⟨g1, g2⟩ := he hc
      refine ⟨_, _, _, _, hc, RStep.of h0 (by omega) hv (by rw [hL]) (by rw [g1, g2]) h7⟩

set_option maxHeartbeats 2000000 in
theorem behind_light (s t : ByteArray) (w : World) (hS : Sys w) (hs : s.size ≤ maxLen) (ht : t.size ≤ maxLen) (h : 1500 < s.size ∨ 1500 < t.size ∨ validD t.data.toList = false) :
    Calls Tryz.prog 4 #[.string s, .string t] w fun e w' => e = .returned (.bool true) ∧ Below w.heap.size w w' := by
  have HL := Lib.hid (lives_any w hS)
  clear hS
  by_cases h1 : 1500 < s.size
  · have hg : decide ((1500 : Int) < (s.size : Int)) = true := by simp; omega
    clear h h1
    go_enter Tryz.func4, Tryz.ntmps4
    go_wp2_with fail
    refine HL.out.mono ?_
    rintro e w1 ⟨rfl, hb1⟩
    have HB := Lib.hid hb1
    clear hb1
    go_wp2_with fail
    go_ret
    exact ⟨rfl, HB.out⟩
  have hg : decide ((1500 : Int) < (s.size : Int)) = false := by simp; omega
  by_cases h2 : 1500 < t.size
  · have hg2 : decide ((1500 : Int) < (t.size : Int)) = true := by simp; omega
    clear h h1 h2
    go_enter Tryz.func4, Tryz.ntmps4
    go_wp2_with fail
    refine HL.out.mono ?_
    rintro e w1 ⟨rfl, hb1⟩
    have HB := Lib.hid hb1
    clear hb1
    go_wp2_with fail
    go_ret
    exact ⟨rfl, HB.out⟩
  have hg2 : decide ((1500 : Int) < (t.size : Int)) = false := by simp; omega
  have hv : validD t.data.toList = false := by
    rcases h with h | h | h
    · exact (h1 h).elim
    · exact (h2 h).elim
    · exact h
  have HV := Lib.hid (fun w => RefStrs.ref_valid t w (by omega))
  rw [hv] at HV
  clear h h1 h2 hv
  go_enter Tryz.func4, Tryz.ntmps4
  go_wp2_with fail
  refine HL.out.mono ?_
  rintro e w1 ⟨rfl, hb1⟩
  have HB := Lib.hid hb1
  clear hb1
  go_wp2_with fail
  refine (HV.out _).mono ?_
  rintro e w2 ⟨rfl, hb2⟩
  have HB2 := Lib.hid (HB.out.trans (hb2.mono HB.out.size))
  clear hb2
  go_wp2_with fail
  go_ret
  exact ⟨rfl, HB2.out⟩

set_option maxHeartbeats 8000000 in
theorem behind_walk (s t : ByteArray) (w : World) (hs : s.size ≤ maxLen) (ht : t.size ≤ maxLen) (hS : Sys w) :
    Calls Tryz.prog 4 #[.string s, .string t] w fun e w' => e = .returned (.bool true) ∧ Below w.heap.size w w' := by
  by_cases hl : 1500 < s.size ∨ 1500 < t.size ∨ validD t.data.toList = false
  · exact behind_light s t w hS hs ht hl
  simp only [not_or] at hl
  obtain ⟨h1, h2, h3⟩ := hl
  have hg : decide ((1500 : Int) < (s.size : Int)) = false := by simp; omega
  have hg2 : decide ((1500 : Int) < (t.size : Int)) = false := by simp; omega
  have hv : validD t.data.toList = true := by simpa using h3
  have HV := Lib.hid (fun w => RefStrs.ref_valid t w (by omega))
  rw [hv] at HV
  have HL := Lib.hid (lives_any w hS)
  have HS0 := Lib.hid hS
  have hfirst := first_read s (by omega)
  have HCut := Lib.hid (fun (n : Nat) (w : World) (hv : validD s.data.toList = true) (hn : n ≤ (runes s.data.toList).length) => RefStrs.ref_cut_yes s 0 n w (by omega) hv (Nat.zero_le _) hn)
  have hB : (runes t.data.toList).length ≤ 1500 := by
    have := runes_length t.data.toList
    rw [← Lib.size_eq] at this
    omega
  have HBc := Lib.hid (isC_runes _ hv)
  have HBl := Lib.hid hB
  have HTe := Lib.hid (show t.data.toList = enc (runes t.data.toList) from (enc_runes _ hv).symm)
  have HSs := Lib.hid (show s.size ≤ 1500 by omega)
  have HTs := Lib.hid (show t.size ≤ 1500 by omega)
  clear hS h1 h2 h3 hv hB
  rcases hfirst with ⟨c, k, ob', tb', hc, hR⟩ | ⟨hv, x, n, ob', tb', hn, hR, hR2⟩
  · have HR := Lib.hid hR
    have hc0 : (c == 0) = false := by simpa using hc
    clear hR hc HCut HBc HBl HTe
    go_enter Tryz.func4, Tryz.ntmps4
    go_wp2_with fail
    refine HL.out.mono ?_
    rintro e w1 ⟨rfl, hb1⟩
    have HB1 := Lib.hid hb1
    clear hb1
    go_wp2_with fail
    refine (HV.out _).mono ?_
    rintro e w2 ⟨rfl, hb2⟩
    have HB2 := Lib.hid (HB1.out.trans (hb2.mono HB1.out.size))
    have HS := Lib.hid (HS0.out.below HB2.out)
    clear hb2
    go_wp2_with fail
    refine (FStep.of (lim := 3200) (by omega) (by omega) _ HS.out.tabs).mono ?_
    rintro e w3 ⟨tp, rfl, hN⟩
    have HN := Lib.hid hN
    clear hN
    go_wp2_with fail
    refine (HR.out _ _ tp _ HS.out HN.out).mono ?_
    rintro e u1 ⟨rfl, hn⟩
    have hn2 := hn.two 0 0 c k
    obtain ⟨f0, f1, _, _⟩ := (hn2.box (fbx (u1.heap.size + 1) c k) (by simp)).two
    obtain ⟨g0, g1, _, _⟩ := (hn2.box (wbx u1.heap.size 0 0) (by simp)).two
    have HX := Lib.hid (HB2.out.trans (hn2.below.mono HB2.out.size))
    clear hn hn2
    go_wp2_with fail
    go_ret
    exact ⟨rfl, HX.out⟩
  · have HR := Lib.hid hR
    have HR2 := Lib.hid hR2
    have HCt := Lib.hid (fun w => HCut.out n w hv hn)
    have HNn := Lib.hid hn
    obtain ⟨x0, x1⟩ := x
    clear hR hR2 hv hn HCut
    go_enter Tryz.func4, Tryz.ntmps4
    go_wp2_with fail
    refine HL.out.mono ?_
    rintro e w1 ⟨rfl, hb1⟩
    have HB1 := Lib.hid hb1
    clear hb1
    go_wp2_with fail
    refine (HV.out _).mono ?_
    rintro e w2 ⟨rfl, hb2⟩
    have HB2 := Lib.hid (HB1.out.trans (hb2.mono HB1.out.size))
    have HS := Lib.hid (HS0.out.below HB2.out)
    clear hb2
    go_wp2_with fail
    refine (FStep.of (lim := 3200) (by omega) (by omega) _ HS.out.tabs).mono ?_
    rintro e w3 ⟨tp, rfl, hN⟩
    have HN := Lib.hid hN
    clear hN
    go_wp2_with fail
    refine (HR.out _ _ tp _ HS.out HN.out).mono ?_
    rintro e u1 ⟨rfl, hn⟩
    have hn2 := hn.two x0 x1 0 0
    obtain ⟨f0, f1, _, _⟩ := (hn2.box (fbx (u1.heap.size + 1) 0 0) (by simp)).two
    clear HN hn
    have HN0 := Lib.hid hn2
    clear hn2
    go_wp2_with fail
    obtain ⟨v1, hv1⟩ : ∃ v, (u1.alloc (wob x0 x1)).alloc (fob 0 0) = v := ⟨_, rfl⟩
    have hn2 := HN0.out
    rw [hv1] at hn2
    have HN := Lib.hid hn2
    rw [hv1]
    clear hn2 HN0 hv1 f0 f1
    have hct := HCt.out v1
    have hnn := HNn.out
    obtain ⟨F, hF⟩ : ∃ F, strOf (enc (((runes s.data.toList).drop 0).take (n - 0))) = F := ⟨_, rfl⟩
    rw [hF] at hct
    have hFb : F.data.toList = enc ((runes s.data.toList).take n) := by rw [← hF, strOf_list, List.drop_zero, Nat.sub_zero]
    have hFs : F.size ≤ 6000 := by
      have h4 := enc_len4 ((runes s.data.toList).take n)
      have hr := runes_length s.data.toList
      rw [← Lib.size_eq] at hr
      rw [List.length_take] at h4
      rw [Lib.size_eq, hFb]
      have := HSs.out
      omega
    have hts := HTs.out
    have hn1 : ¬ 9223372036854775807 < F.size + 1 := by omega
    have hn2 : ¬ 9223372036854775807 < F.size + 1 + t.size := by omega
    have HS2 := Lib.hid (HR2.out (runes t.data.toList) HBc.out HBl.out (F ++ ⟨#[32]⟩ ++ t) (by rw [str_add, str_add, hFb, enc_append, enc_cons, ← HTe.out, enc_one (by omega) (by omega), List.append_assoc]; rfl))
    clear HR2 hF hFb hFs hts hnn HBc HBl HTe HCt
    refine hct.mono ?_
    clear hct
    rintro e w4 ⟨rfl, hb4⟩
    have hn3 := HN.out.later hb4
    clear HN hb4
    have HN := Lib.hid hn3
    have HS4 := Lib.hid (HS.out.below hn3.below)
    clear hn3
    go_wp2_with fail
    refine (FStep.of (lim := 3200) (by omega) (by omega) w4 HS4.out.tabs).mono ?_
    rintro e w5 ⟨tp2, rfl, hN⟩
    have HM := Lib.hid hN
    clear hN
    go_wp2_with fail
    refine (HS2.out _ _ tp2 _ HS4.out HM.out).mono ?_
    rintro e u2 ⟨rfl, hn⟩
    have hm2 := hn.two x0 x1 0 0
    obtain ⟨f0, f1, _, _⟩ := (hm2.box (fbx (u2.heap.size + 1) 0 0) (by simp)).two
    obtain ⟨f2, f3, _, _⟩ := (hm2.box (wbx u2.heap.size x0 x1) (by simp)).two
    have hn3 := HN.out.later hm2.below
    obtain ⟨f4, f5, _, _⟩ := (hn3.box (wbx u1.heap.size x0 x1) (by simp)).two
    clear HN hn HM
    have HN0 := Lib.hid hn3
    have HM0 := Lib.hid hm2
    clear hn3 hm2
    go_wp2_with fail
    obtain ⟨v2, hv2⟩ : ∃ v, (u2.alloc (wob x0 x1)).alloc (fob 0 0) = v := ⟨_, rfl⟩
    have hn3 := HN0.out
    have hm3 := HM0.out
    rw [hv2] at hn3 hm3
    rw [hv2]
    have HN := Lib.hid hn3
    have HM := Lib.hid hm3
    clear hn3 hm3 HN0 HM0 hv2 f0 f1 f2 f3 f4 f5
    refine (HM.out.many v2 (Below.refl _ _)).mono ?_
    rintro e w6 ⟨rfl, hb6⟩
    have HB6 := Lib.hid hb6
    clear hb6
    go_wp2_with fail
    refine (HN.out.many w6 HB6.out).mono ?_
    rintro e w7 ⟨rfl, hb7⟩
    have HB7 := Lib.hid (HB6.out.trans (hb7.mono HB6.out.size))
    clear hb7
    go_wp2_with fail
    refine (HM.out.tmany w7 HB7.out).mono ?_
    rintro e w8 ⟨rfl, hb8⟩
    have HB8 := Lib.hid (HB7.out.trans (hb8.mono HB7.out.size))
    clear hb8
    go_wp2_with fail
    refine (HN.out.tmany w8 HB8.out).mono ?_
    rintro e w9 ⟨rfl, hb9⟩
    have HB9 := Lib.hid (HB8.out.trans (hb9.mono HB8.out.size))
    clear hb9
    go_wp2_with fail
    go_ret
    exact ⟨rfl, HB2.out.trans ((HN.out.below.trans (HB9.out.mono HN.out.below.size)).mono HB2.out.size)⟩
end Go.Proofs.YtlibdhnlmekmhaaGreatDoor.Rd
