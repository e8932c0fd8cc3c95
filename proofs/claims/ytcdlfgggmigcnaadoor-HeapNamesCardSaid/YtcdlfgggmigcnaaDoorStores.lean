/- The contract of stores: all contents together are limited. -/
import Derived.Test.YtcdlfgggmigcnaaDoorStoresMath
import Derived.Test.YtcdlfgggmigcnaaDoorCopy
import Derived.LoopTactic
import Derived.Deep.LoopGhost
namespace Go.Proofs.YtcdlfgggmigcnaaDoor.Stores
set_option maxRecDepth 100000
open Go.RowKit
open Go.Proofs.YtcdlfgggmigcnaaDoor.Own Go.Proofs.YtcdlfgggmigcnaaDoor.Hp Go.Proofs.YtcdlfgggmigcnaaDoor.Rep Go.Proofs.YtcdlfgggmigcnaaDoor.Get Go.Proofs.YtcdlfgggmigcnaaDoor.Quick Go.Proofs.YtcdlfgggmigcnaaDoor.Add Go.Proofs.YtcdlfgggmigcnaaDoor.Make Go.Proofs.YtcdlfgggmigcnaaDoor.Kit Go.Proofs.YtcdlfgggmigcnaaDoor.Strs Go.Proofs.YtcdlfgggmigcnaaDoor.Clone Go.Proofs.YtcdlfgggmigcnaaDoor.Lives Go.Proofs.YtcdlfgggmigcnaaDoor.Dup Go.Proofs.YtcdlfgggmigcnaaDoor.Collect

/-- A heap of at most 40 objects in a world behind w. -/
structure Hs (w wr : World) (ob : Obs) (lab : Nat → Option Lab) (P : Parts) : Prop where
  below : Below w.heap.size w wr
  heap : HeapIs wr w.heap.size w.heap.size 40 ob lab P
theorem Hs.later {w wr W : World} {ob : Obs} {lab : Nat → Option Lab} {P : Parts} (h : Hs w wr ob lab P) (hb : Below wr.heap.size wr W) : Hs w W ob lab P :=
  ⟨h.below.trans (hb.mono h.below.size), h.heap.below hb⟩
theorem Hs.after {w wr W : World} {ob ob' : Obs} {lab lab' : Nat → Option Lab} {P P' : Parts} (h : Hs w wr ob lab P) (hI : HeapIs W w.heap.size w.heap.size 40 ob' lab' P') (hA : After wr W lab lab') : Hs w W ob' lab' P' :=
  ⟨h.below.trans (after_below h.heap h.below.size hA), hI⟩
/-- The word of the great vector. -/
structure Bw (wr : World) (lab : Nat → Option Lab) (b : Nat) : Prop where
  blk : Blk wr b #[.int .i64 4, .int .i64 15] 28
  lab : lab b = none
theorem Bw.later {wr W : World} {lab : Nat → Option Lab} {b : Nat} (h : Bw wr lab b) (hb : Below wr.heap.size wr W) : Bw W lab b := ⟨h.blk.below hb, h.lab⟩
theorem Bw.after {w wr W : World} {b : Nat} {ob : Obs} {lab lab' : Nat → Option Lab} {P : Parts} (h : Bw wr lab b) (h0 : Hs w wr ob lab P) (hA : After wr W lab lab') : Bw W lab' b :=
  ⟨after_blk h0.heap hA h.blk h.lab, after_lab hA h.blk.lt h.lab⟩
abbrev wbx (k n : Int) : Obj := .cells #[.int .i64 k, .int .i64 n] 28
theorem wbx_below (w : World) (k n : Int) : Below w.heap.size w (w.alloc (wbx k n)) := (Below.refl _ _).alloc (Nat.le_refl _) _

def strSize : Value → Nat
  | .string s => s.size
  | _ => 0
def zs (n : Nat) : List Wd := List.replicate n (0, 0)
theorem zs_length (n : Nat) : (zs n).length = n := by simp [zs]
theorem zs_all (n : Nat) : ∀ x ∈ zs n, x = (0, 0) := fun _ h => List.eq_of_mem_replicate h
theorem zs_cells (n : Nat) : wcells (zs n) = List.replicate (n * 2) (.int .i64 0) := by
  induction n with
  | zero => rfl
  | succ n ih =>
    have e : zs (n + 1) = (0, 0) :: zs n := rfl
    rw [e]
    simp only [wcells]
    rw [ih, show (n + 1) * 2 = n * 2 + 1 + 1 by omega, List.replicate_succ, List.replicate_succ]
theorem made_zs (n m : Nat) (h : m = n * 2) : (madeCells #[.int .i64 0, .int .i64 0] m).toList = wcells (zs n) := by
  rw [zs_cells]
  refine List.eq_replicate_iff.2 ⟨by rw [Array.length_toList, size_madeCells, h], fun b hb => ?_⟩
  unfold madeCells at hb
  simp only [Array.toList_map, List.mem_map] at hb
  obtain ⟨i, _, rfl⟩ := hb
  have h2 : i % (#[Value.int .i64 0, .int .i64 0]).size = 0 ∨ i % (#[Value.int .i64 0, .int .i64 0]).size = 1 := by
    have : (#[Value.int .i64 0, .int .i64 0]).size = 2 := rfl
    rw [this]
    omega
  rcases h2 with h | h <;> rw [h] <;> rfl
theorem made_ex (n m : Nat) (h : m = n * 2) : ∃ Z : List Wd, (madeCells #[.int .i64 0, .int .i64 0] m).toList = wcells Z ∧ Z.length = n ∧ ∀ x ∈ Z, x = (0, 0) := ⟨zs n, made_zs n m h, zs_length n, zs_all n⟩
theorem size_rep (S : ByteArray) (n : Nat) (h : S.data.toList = rep n) : S.size = n := by
  have e : S.size = S.data.toList.length := by simp
  rw [e, h]
  simp [rep]
theorem rep_two (S : ByteArray) (k : Nat) (h : S.data.toList = rep (2 ^ k)) : (S ++ S).data.toList = rep (2 ^ (k + 1)) := by
  have e : (S ++ S).data.toList = S.data.toList ++ S.data.toList := by simp
  rw [e, h, ← rep_add, Nat.pow_succ]
  congr 1
  omega

set_option maxHeartbeats 8000000 in
theorem stores_any (w : World) (hT : Tabs w) : Calls Tryd.prog 15 #[] w fun e w' => e = .returned (.bool true) ∧ Below w.heap.size w w' := by
  obtain ⟨i0, hi, hz0, hz1, hz2⟩ := info_parts word_info
  have HI0 := Lib.hid hi
  have HZ0 := Lib.hid hz0
  have HZ1 := Lib.hid hz1
  have HZ2 := Lib.hid hz2
  have HN := Lib.hid (new_any 40 (by omega) (by omega) w)
  have HT := Lib.hid hT
  clear hT hi hz0 hz1 hz2
  go_enter Tryd.func15, Tryd.ntmps15
  go_wp2_with fail
  refine HN.out.mono ?_
  rintro e w1 ⟨rfl, hb1, hI1⟩
  have hr1 := room_any hI1
  rw [show usedTo noObs 40 = 0 by kernel_rfl] at hr1
  have HR1 := Lib.hid hr1
  have HH1 := Lib.hid (show ∃ lab P, Hs w w1 noObs lab P from ⟨_, _, hb1, hI1⟩)
  clear hb1 hI1 hr1 HN
  go_wp2_with fail
  refine HR1.out.mono ?_
  rintro e w2 ⟨rfl, rfl⟩
  clear HR1
  go_wp2_with fail
  go_loopw [3] (fun v wr => ∃ (k : Nat) (S : ByteArray), v = .string S ∧ k ≤ 16 ∧ Hid (S.data.toList = rep (2 ^ k)) ∧ wr = w1) (fun v _ => 65536 - strSize v)
  case atStart => exact ⟨0, _, rfl, by omega, Lib.hid rfl, rfl⟩
  case round =>
    obtain ⟨k, S, rfl, hk, HS, rfl⟩ := hrel
    have hsz := size_rep S _ HS.out
    have hle : S.size ≤ 65536 := by
      rw [hsz]
      exact Nat.pow_le_pow_right (n := 2) (by omega) hk
    by_cases hlt : S.size < 65536
    · have hltz : (S.size : Int) < 65536 := by omega
      have hk2 : k < 16 := by
        rcases Nat.lt_or_ge k 16 with h | h
        · exact h
        · obtain rfl : k = 16 := by omega
          rw [hsz] at hlt
          exact absurd hlt (by decide)
      have hsz1 : 1 ≤ S.size := by rw [hsz]; exact Nat.one_le_two_pow
      have HS2 := Lib.hid (rep_two S k HS.out)
      clear hsz
      go_wp2_with fail
      go_roundw
      case rel => exact ⟨k + 1, _, rfl, by omega, HS2, by trivial⟩
      case measure => simp [strSize]; omega
    · have hltz : ¬ (S.size : Int) < 65536 := by omega
      have HS2 : Hid (S.data.toList = rep 65536) := by
        have h1 := HS.out
        rw [← hsz, show S.size = 65536 by omega] at h1
        exact Lib.hid h1
      have hse : S.size = 65536 := by omega
      clear hsz HS hk hlt hle
      obtain ⟨lab1, P1, hh1⟩ := HH1.out
      have HH2 : Hid (Hs w wr (obS S 0) lab1 P1) := by rw [obS_zero]; exact Lib.hid hh1
      clear hh1 HH1
      go_wp2_with fail
      go_loopw [4] (fun v wr => ∃ (k : Nat) (lab : Nat → Option Lab) (P : Parts), v = .int .i64 (k : Int) ∧ k ≤ 15 ∧ Hid (Hs w wr (obS S k) lab P)) (fun v _ => 15 - (intOf v).toNat)
      case atStart => exact ⟨0, _, _, rfl, by omega, HH2⟩
      case round =>
        obtain ⟨k, lab2, P2, rfl, hk, HI⟩ := hrel
        by_cases hlt : k < 15
        · have hltz : (k : Int) < 15 := by omega
          have ht := text_any HI.out.heap HI.out.below.size S (by omega) (HT.out.below HI.out.below)
          rw [obS_text S k HS2.out hlt] at ht
          have HTx := Lib.hid ht
          clear ht
          go_wp2_with fail
          refine HTx.out.mono ?_
          rintro e w4 ⟨rfl, lab4, P4, hI4, hA4⟩
          have HI2 := Lib.hid ((HI.out.after hI4 hA4).later (wbx_below w4 3 (k : Int)))
          clear hI4 hA4
          go_wp2_with fail
          go_roundw
          case rel => exact ⟨k + 1, _, _, by go_num, by omega, HI2⟩
          case measure => simp [intOf]; omega
        · obtain rfl : k = 15 := by omega
          have hltz : ¬ (((15 : Nat) : Int)) < 15 := by omega
          clear hlt hk HH2
          go_wp2_with (at_make; refine wpList_make_full _ rfl _ _ 36 rfl w.heap.size 28 i0 (.agg #[.int .i64 0, .int .i64 0]) 2 Tryd.underlying36 HI0.out HZ0.out HZ1.out .i64 .i64 _ _ 65536 rfl rfl rfl rfl ?b2 ?b3 ?b4 ?_)
          case b2 => rw [HZ2.out]; omega
          case b3 => unfold maxLen; omega
          case b4 => exact HI.out.below.size
          intro w5 hown hgr
          have hb5 : Below wr.heap.size wr w5 := (Below.refl wr.heap.size wr).grown hgr (Nat.le_refl _) (by simp)
          have hh5 := HI.out.later hb5
          obtain ⟨Z, hZ, hl, hall⟩ := made_ex 65536 131072 (by omega)
          rw [hZ] at hown
          have hsl := SlR.of_own hown
          have hv := vec_any hh5.heap hh5.below.size (.slice (some ⟨wr.heap.size, 0, none⟩) 65536 65536) Z (by rw [hl]; exact hsl) (by rw [hl]; omega)
          rw [obV_vec S _ hl] at hv
          have HVe := Lib.hid hv
          have HH5 := Lib.hid hh5
          have HLn := Lib.hid hl
          have HAl := Lib.hid hall
          clear hZ hv hh5 hl hall hsl hown hgr hb5 HI
          go_wp2_with fail
          refine HVe.out.mono ?_
          rintro e w6 ⟨rfl, lab6, P6, hI6, hA6⟩
          have HB6 := Lib.hid (show Bw (w6.alloc (wbx 4 15)) lab6 w6.heap.size from ⟨Blk.new _ _ _, lab_none hI6 (Nat.le_refl _)⟩)
          have HH6 := Lib.hid ((HH5.out.after hI6 hA6).later (wbx_below w6 4 15))
          have ht := text_any HH6.out.heap HH6.out.below.size ⟨#[195, 169]⟩ (by decide) (HT.out.below HH6.out.below)
          rw [obV_text S Z HLn.out] at ht
          have HT6 := Lib.hid ht
          obtain ⟨bl, hbl⟩ : ∃ bl, w6.heap.size = bl := ⟨_, rfl⟩
          obtain ⟨W6, hW6⟩ : ∃ W6, w6.alloc (.cells #[.int .i64 4, .int .i64 15] 28) = W6 := ⟨_, rfl⟩
          have HB6 : Hid (Bw W6 lab6 bl) := by rw [← hW6, ← hbl]; exact HB6
          have HH6 : Hid (Hs w W6 (obV S Z) lab6 P6) := by rw [← hW6]; exact HH6
          rw [hW6] at HT6
          have HW6 := Lib.hid hW6
          clear ht hI6 hA6 HVe HH5 hW6
          go_wp2_with fail
          rw [HW6.out]
          refine HT6.out.mono ?_
          rintro e w7 ⟨rfl, lab7, P7, hI7, hA7⟩
          have HB7 := Lib.hid ((HB6.out.after HH6.out hA7).later (wbx_below w7 0 0))
          have HH7 := Lib.hid ((HH6.out.after hI7 hA7).later (wbx_below w7 0 0))
          clear hI7 hA7 HT6 HH6 HB6 HW6
          go_wp2_with (at_make; refine wpList_make_full _ rfl _ _ 36 rfl w.heap.size 28 i0 (.agg #[.int .i64 0, .int .i64 0]) 2 Tryd.underlying36 HI0.out HZ0.out HZ1.out .i64 .i64 _ _ 1 rfl rfl rfl rfl ?b2 ?b3 ?b4 ?_)
          case b2 => rw [HZ2.out]; omega
          case b3 => unfold maxLen; omega
          case b4 => exact HH7.out.below.size
          intro w8 hown hgr
          have hb8 : Below (w7.alloc (wbx 0 0)).heap.size (w7.alloc (wbx 0 0)) w8 := (Below.refl _ (w7.alloc (wbx 0 0))).grown hgr (Nat.le_refl _) (by simp)
          have hh8 := HH7.out.later hb8
          have hB8 := HB7.out.later hb8
          rw [made_zs 1 2 rfl] at hown
          have hsl := SlR.of_own hown
          have hv := vec_any hh8.heap hh8.below.size (.slice (some ⟨w7.heap.size + 1, 0, none⟩) 1 1) [(0, 0)] hsl (by simp)
          rw [obV_vec1 S Z HLn.out] at hv
          have HV8 := Lib.hid hv
          have HH8 := Lib.hid hh8
          have HB8 := Lib.hid hB8
          clear hv hh8 hB8 hsl hown hgr hb8 HH7 HB7
          go_wp2_with fail
          refine HV8.out.mono ?_
          rintro e w9 ⟨rfl, lab9, P9, hI9, hA9⟩
          have HB9 := Lib.hid ((HB8.out.after HH8.out hA9).later (wbx_below w9 0 0))
          have HH9 := Lib.hid ((HH8.out.after hI9 hA9).later (wbx_below w9 0 0))
          have hal : Below (w9.alloc (wbx 0 0)).heap.size (w9.alloc (wbx 0 0)) ((w9.alloc (wbx 0 0)).alloc (.cells #[.int .u8 1] 5)) := (Below.refl _ _).alloc (Nat.le_refl _) _
          have hbk := Blk.new (w9.alloc (wbx 0 0)) #[.int .u8 1] 5
          rw [show (w9.alloc (wbx 0 0)).heap.size = w9.heap.size + 1 by simp] at hbk
          have hh10 := HH9.out.later hal
          have hB10 := HB9.out.later hal
          have hbs : SlR ((w9.alloc (wbx 0 0)).alloc (.cells #[.int .u8 1] 5)) (.slice (some ⟨w9.heap.size + 1, 0, none⟩) 1 1) ([1] : List Int).length (bcells [1]) := by
            refine ⟨_, _, rfl, Nat.le_refl _, fun _ => ⟨w9.heap.size + 1, 0, rfl, fun j x hx => ?_⟩⟩
            rcases j with _ | j
            · simp [bcells] at hx; subst hx; exact hbk.cell 0 _ rfl
            · simp [bcells] at hx
          obtain ⟨W9, hW9⟩ : ∃ W9, (w9.alloc (.cells #[.int .i64 0, .int .i64 0] 28)).alloc (.cells #[.int .u8 1] 5) = W9 := ⟨_, rfl⟩
          rw [hW9] at hh10 hB10 hbs
          have hc := code_any hh10.heap hh10.below.size 0 0 0 _ (.slice none 0 0) [1] [] hbs (nil_reads _ _ _) (by simp) (by simp)
          rw [obV_code S Z HLn.out] at hc
          have HC10 := Lib.hid hc
          have HH10 := Lib.hid hh10
          have HB10 := Lib.hid hB10
          have HW9 := Lib.hid hW9
          clear hc hh10 hB10 hbs hbk hal HB9 HH9 hI9 hA9 HV8 HH8 HB8 hW9
          go_wp2_with fail
          rw [HW9.out]
          refine HC10.out.mono ?_
          rintro e w11 ⟨rfl, lab11, P11, hI11, hA11⟩
          have HB11 := Lib.hid ((HB10.out.after HH10.out hA11).later (wbx_below w11 0 0))
          have HH11 := Lib.hid ((HH10.out.after hI11 hA11).later (wbx_below w11 0 0))
          obtain ⟨W11, hW11⟩ : ∃ W11, w11.alloc (.cells #[.int .i64 0, .int .i64 0] 28) = W11 := ⟨_, rfl⟩
          have HB11 : Hid (Bw W11 lab11 bl) := by rw [← hW11]; exact HB11
          have HH11 : Hid (Hs w W11 (obV S Z) lab11 P11) := by rw [← hW11]; exact HH11
          have ht := text_any HH11.out.heap HH11.out.below.size ⟨#[]⟩ (by decide) (HT.out.below HH11.out.below)
          rw [obW_text S Z HLn.out] at ht
          have HT11 := Lib.hid ht
          have HW11 := Lib.hid hW11
          clear ht hI11 hA11 HC10 HH10 HB10 HW9 hW11
          go_wp2_with fail
          rw [HW11.out]
          refine HT11.out.mono ?_
          rintro e w12 ⟨rfl, lab12, P12, hI12, hA12⟩
          have HB12 := Lib.hid ((HB11.out.after HH11.out hA12).later (wbx_below w12 3 16))
          have HH12 := Lib.hid ((HH11.out.after hI12 hA12).later (wbx_below w12 3 16))
          obtain ⟨W12, hW12⟩ : ∃ W12, w12.alloc (.cells #[.int .i64 3, .int .i64 16] 28) = W12 := ⟨_, rfl⟩
          have HB12 : Hid (Bw W12 lab12 bl) := by rw [← hW12]; exact HB12
          have HH12 : Hid (Hs w W12 (obW S Z) lab12 P12) := by rw [← hW12]; exact HH12
          have hr := room_any HH12.out.heap
          rw [obW_used S Z HLn.out] at hr
          have HR12 := Lib.hid hr
          have HCp := Lib.hid (copy_any HH12.out.heap)
          have HW12 := Lib.hid hW12
          clear hr hI12 hA12 HT11 HH11 HB11 HW11 hW12
          go_wp2_with fail
          rw [HW12.out]
          refine HR12.out.mono ?_
          rintro e w13 ⟨rfl, rfl⟩
          clear HR12 HW12
          go_wp2_with fail
          refine HCp.out.mono ?_
          rintro e w14 ⟨rfl, ⟨labC, PC, hIC⟩, hb14⟩
          have hr := room_any hIC
          rw [obW_used S Z HLn.out] at hr
          have HR14 := Lib.hid hr
          have HH14 := Lib.hid (HH12.out.later hb14)
          have HB14 := Lib.hid (HB12.out.later hb14)
          clear hr hIC hb14 HCp HH12 HB12
          go_wp2_with fail
          refine HR14.out.mono ?_
          rintro e w15 ⟨rfl, rfl⟩
          obtain ⟨a0, a1, _, _⟩ := HB14.out.blk.two
          have hal := wbx_below w14 4 15
          have hh16 := HH14.out.later hal
          have hsl : SlR (w14.alloc (wbx 4 15)) (.slice (some ⟨w14.heap.size, 0, none⟩) 1 1) [((4, 15) : Wd)].length (wcells [(4, 15)]) := by
            have hbk := Blk.new w14 #[.int .i64 4, .int .i64 15] 28
            refine ⟨_, _, rfl, Nat.le_refl _, fun _ => ⟨w14.heap.size, 0, rfl, fun j x hx => ?_⟩⟩
            rcases j with _ | _ | j
            · simp [wcells] at hx; subst hx; exact hbk.cell 0 _ rfl
            · simp [wcells] at hx; subst hx; exact hbk.cell 1 _ rfl
            · simp [wcells] at hx
          have hc := collect_any hh16.heap hh16.below.size _ [(4, 15)] hsl (by simp)
          rw [obW_collected S Z HAl.out, obW_many, obL_many] at hc
          have HCo := Lib.hid hc
          have HH16 := Lib.hid hh16
          clear hc hh16 hsl hal HH14 HB14 HR14
          go_wp2_with fail
          refine HCo.out.mono ?_
          rintro e w17 ⟨rfl, lab17, P17, hI17, hA17⟩
          have hr := room_any hI17
          rw [obL_used Z HLn.out] at hr
          have HR17 := Lib.hid hr
          have HF := Lib.hid (HH16.out.after hI17 hA17).below
          clear hr hI17 hA17 HCo HH16 a0 a1
          go_wp2_with fail
          refine HR17.out.mono ?_
          rintro e w18 ⟨rfl, rfl⟩
          go_wp2_with fail
          go_ret
          exact ⟨rfl, HF.out⟩
end Go.Proofs.YtcdlfgggmigcnaaDoor.Stores
