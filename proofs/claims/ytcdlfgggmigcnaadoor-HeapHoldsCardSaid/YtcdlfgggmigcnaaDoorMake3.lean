/- The contract of Text. -/
import Derived.Test.YtcdlfgggmigcnaaDoorMake2
namespace Go.Proofs.YtcdlfgggmigcnaaDoor.Make
set_option maxRecDepth 100000
open Go.RowKit
open Go.Proofs.YtcdlfgggmigcnaaDoor.Own Go.Proofs.YtcdlfgggmigcnaaDoor.Hp Go.Proofs.YtcdlfgggmigcnaaDoor.HeapOrd Go.Proofs.YtcdlfgggmigcnaaDoor.Rep Go.Proofs.YtcdlfgggmigcnaaDoor.Base Go.Proofs.YtcdlfgggmigcnaaDoor.Get Go.Proofs.YtcdlfgggmigcnaaDoor.Size Go.Proofs.YtcdlfgggmigcnaaDoor.Add Go.Proofs.YtcdlfgggmigcnaaDoor.Clone Go.Proofs.YtcdlfgggmigcnaaDoor.Strs

/-- What Text returns. -/
def textO (ob : Obs) (lim : Nat) (s : ByteArray) : Wd × Int × Obs :=
  if Lib.validD s.data.toList = false then ((0, 0), 5, ob) else if 65536 < lenL s.data.toList then ((0, 0), 4, ob) else addO ob lim (.text s (lenL s.data.toList))

set_option maxHeartbeats 4000000 in
theorem text_bad {w : World} {base hp lim : Nat} {ob : Obs} {lab : Nat → Option Lab} {P : Parts} (h : HeapIs w base hp lim ob lab P) (s : ByteArray) (hs : s.size ≤ 4611686018427387904) (hT : Tabs w) (hv : Lib.validD s.data.toList = false) :
    Calls Tryd.prog 20 #[ptr hp, .string s] w fun e w' => e = .returned (.tuple #[wd (0, 0), .int .i64 5]) ∧ Below w.heap.size w w' := by
  have hb1 : Below w.heap.size w (w.alloc (.cells #[.int .i64 0, .int .i64 0] 28)) := (Below.refl _ _).alloc (Nat.le_refl _) _
  have HV := Lib.hid (Get.valid_any h _ hb1)
  have hL := Strs.valid_any s _ (by omega) (hT.below hb1)
  rw [hv] at hL
  have HL := Lib.hid hL
  clear h hL hT hv
  go_enter Tryd.func20, Tryd.ntmps20
  go_wp2_with fail
  refine HV.out.mono ?_
  rintro e w1 ⟨rfl, rfl⟩
  go_wp2_with fail
  refine HL.out.mono ?_
  rintro e w2 ⟨rfl, hb2⟩
  obtain ⟨b0, b1, e0, e1⟩ := (one_new hb2).two
  go_wp2_with fail
  refine bodyPost_ret (v := .tuple #[wd (0, 0), .int .i64 5]) (by simp [results, Tryd.results20, go_sem, b0, b1]) rfl ⟨rfl, ?_⟩
  exact ((hb1.trans (hb2.mono hb1.size)).setCell (by simp) _).setCell (by simp) _
set_option maxHeartbeats 4000000 in
theorem text_long {w : World} {base hp lim : Nat} {ob : Obs} {lab : Nat → Option Lab} {P : Parts} (h : HeapIs w base hp lim ob lab P) (s : ByteArray) (hs : s.size ≤ 4611686018427387904) (hT : Tabs w) (hv : Lib.validD s.data.toList = true) (n : Nat) (hn : lenL s.data.toList = n) (hlong : 65536 < n) :
    Calls Tryd.prog 20 #[ptr hp, .string s] w fun e w' => e = .returned (.tuple #[wd (0, 0), .int .i64 4]) ∧ Below w.heap.size w w' := by
  have hb1 : Below w.heap.size w (w.alloc (.cells #[.int .i64 0, .int .i64 0] 28)) := (Below.refl _ _).alloc (Nat.le_refl _) _
  have HV := Lib.hid (Get.valid_any h _ hb1)
  have hL := Strs.valid_any s _ (by omega) (hT.below hb1)
  rw [hv] at hL
  have HL := Lib.hid hL
  have hN := fun w2 (hb : Below w.heap.size w w2) => len_any s w2 (by omega) (hT.below hb)
  simp only [hn] at hN
  have HN := Lib.hid hN
  have hd : decide ((65536 : Int) < n) = true := decide_eq_true (by omega)
  clear h hL hT hv hN hn
  go_enter Tryd.func20, Tryd.ntmps20
  go_wp2_with fail
  refine HV.out.mono ?_
  rintro e w1 ⟨rfl, rfl⟩
  go_wp2_with fail
  refine HL.out.mono ?_
  rintro e w2 ⟨rfl, hb2⟩
  have hb3 := hb1.trans (hb2.mono hb1.size)
  have hB2 := one_new hb2
  go_wp2_with fail
  refine (HN.out _ hb3).mono ?_
  rintro e w3 ⟨rfl, hb4⟩
  obtain ⟨b0, b1, e0, e1⟩ := (hB2.below hb4).two
  clear hB2
  go_wp2_with fail
  refine bodyPost_ret (v := .tuple #[wd (0, 0), .int .i64 4]) (by simp [results, Tryd.results20, go_sem, b0, b1]) rfl ⟨rfl, ?_⟩
  exact ((hb3.trans (hb4.mono hb3.size)).setCell (by simp) _).setCell (by simp) _
set_option maxHeartbeats 4000000 in
theorem text_good {w : World} {base hp lim : Nat} {ob : Obs} {lab : Nat → Option Lab} {P : Parts} (h : HeapIs w base hp lim ob lab P) (hb : base ≤ w.heap.size) (s : ByteArray) (hs : s.size ≤ 4611686018427387904) (hT : Tabs w) (hv : Lib.validD s.data.toList = true) (n : Nat) (hn : lenL s.data.toList = n) (hshort : n ≤ 65536) :
    Calls Tryd.prog 20 #[ptr hp, .string s] w fun e w' => e = .returned (.tuple #[wd (addO ob lim (.text s n)).1, .int .i64 (addO ob lim (.text s n)).2.1]) ∧ AddOk w w' base hp lim (addO ob lim (.text s n)).2.2 lab := by
  have hb1 : Below w.heap.size w (w.alloc (.cells #[.int .i64 0, .int .i64 0] 28)) := (Below.refl _ _).alloc (Nat.le_refl _) _
  have HV := Lib.hid (Get.valid_any h _ hb1)
  have hL := Strs.valid_any s _ (by omega) (hT.below hb1)
  rw [hv] at hL
  have HL := Lib.hid hL
  have hN := fun w2 (hb : Below w.heap.size w w2) => len_any s w2 (by omega) (hT.below hb)
  simp only [hn] at hN
  have HN := Lib.hid hN
  have hd : decide ((65536 : Int) < n) = false := decide_eq_false (by omega)
  obtain ⟨R, hR⟩ : ∃ R, addO ob lim (.text s n) = R := ⟨_, rfl⟩
  rw [hR]
  have HRR := Lib.hid hR
  have HH := Lib.hid h
  have HB := Lib.hid hb
  clear h hL hT hv hN hn hR hb
  go_enter Tryd.func20, Tryd.ntmps20
  go_wp2_with fail
  refine HV.out.mono ?_
  rintro e w1 ⟨rfl, rfl⟩
  go_wp2_with fail
  refine HL.out.mono ?_
  rintro e w2 ⟨rfl, hb2⟩
  have hb3 := hb1.trans (hb2.mono hb1.size)
  have hB2 := one_new hb2
  clear hb1 hb2
  go_wp2_with fail
  refine (HN.out _ hb3).mono ?_
  rintro e w3 ⟨rfl, hb4⟩
  have hr3 := hB2.below hb4
  have hb5 := hb3.trans (hb4.mono hb3.size)
  have hb6 := hb5.alloc hb5.size (.cells #[.string s, .int .i64 (n : Int)] 114)
  have hnl : NewLab (w3.alloc (.cells #[.string s, .int .i64 (n : Int)] 114)) base (freeTo ob lim) (lab1 w3.heap.size (freeTo ob lim)) lab := by
    refine ⟨fun b l hl => ?_, fun b l hl => ?_⟩
    · unfold lab1 at hl
      split at hl
      · rename_i e
        subst e
        exact ⟨lab_none HH.out hb5.size, Nat.le_trans HB.out hb5.size, by simp⟩
      · cases hl
    · unfold lab1 at hl
      split at hl
      · cases hl; rfl
      · cases hl
  have hA := add_any (HH.out.below hb6) hnl (v := .iface 112 (ptr w3.heap.size)) (o := .text s n) ⟨_, rfl, by simp [lab1], Blk.new _ _ _⟩ hshort (Nat.le_trans HB.out hb6.size)
  have hE := fun w4 ob' => make_end (w2 := w4) (ob' := ob') HH.out hb6 hnl (fun b hl => by
    unfold lab1 at hl
    split at hl
    · rename_i e; have := hb5.size; omega
    · exact absurd rfl hl) (r := w.heap.size) (Nat.le_refl _) (by unfold lab1; rw [if_neg (by have := hr3.lt; omega)]) (hr3.alloc _)
  rw [HRR.out] at hA
  have HA := Lib.hid hA
  have HE := Lib.hid hE
  clear hA hE hnl hb6 hb5 hr3 hb4 hb3 hB2
  go_wp2_with fail
  refine HA.out.mono ?_
  rintro e w4 ⟨rfl, hok⟩
  obtain ⟨hB4, hfin⟩ := HE.out w4 _ hok
  obtain ⟨b0, b1, e0, e1⟩ := hB4.two
  have HF := Lib.hid hfin
  clear hok hB4 hfin
  go_wp2_with fail
  refine bodyPost_ret (v := .tuple #[wd R.1, .int .i64 R.2.1]) (by simp [results, Tryd.results20, go_sem, b0, b1]) rfl ⟨rfl, HF.out _ _⟩
theorem text_any {w : World} {base hp lim : Nat} {ob : Obs} {lab : Nat → Option Lab} {P : Parts} (h : HeapIs w base hp lim ob lab P) (hb : base ≤ w.heap.size) (s : ByteArray) (hs : s.size ≤ 4611686018427387904) (hT : Tabs w) :
    Calls Tryd.prog 20 #[ptr hp, .string s] w fun e w' => e = .returned (.tuple #[wd (textO ob lim s).1, .int .i64 (textO ob lim s).2.1]) ∧ AddOk w w' base hp lim (textO ob lim s).2.2 lab := by
  unfold textO
  cases hv : Lib.validD s.data.toList
  · rw [if_pos rfl]
    exact (text_bad h s hs hT hv).mono fun e w' ⟨he, hbw⟩ => ⟨he, addOk_below h hbw⟩
  · rw [if_neg (by simp)]
    by_cases hn : 65536 < lenL s.data.toList
    · rw [if_pos hn]
      exact (text_long h s hs hT hv _ rfl hn).mono fun e w' ⟨he, hbw⟩ => ⟨he, addOk_below h hbw⟩
    · rw [if_neg hn]
      exact text_good h hb s hs hT hv _ rfl (by omega)
end Go.Proofs.YtcdlfgggmigcnaaDoor.Make
