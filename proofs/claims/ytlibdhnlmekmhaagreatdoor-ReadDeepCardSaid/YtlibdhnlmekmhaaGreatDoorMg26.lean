/- The contracts of digit, control, numbered, textEscape. | The contracts of numbered, textEscape. | The contract of textEscape. -/
import Derived.Deep.QuietTactic
import Derived.Laws.RangeString
import Derived.Laws.RangeAny
import Derived.Laws.Runes
import Derived.Test.YtlibdhnlmekmhaaGreatDoorMg25
/- The contracts of digit, control, numbered, textEscape. -/
section
namespace Go.Proofs.YtlibdhnlmekmhaaGreatDoor.Rd
set_option maxRecDepth 100000
open Go.RowKit Go.Lib
open Go.Proofs.YtlibdhnlmekmhaaGreatDoor.Own Go.Proofs.YtlibdhnlmekmhaaGreatDoor.Hp Go.Proofs.YtlibdhnlmekmhaaGreatDoor.Rep Go.Proofs.YtlibdhnlmekmhaaGreatDoor.Get Go.Proofs.YtlibdhnlmekmhaaGreatDoor.Utf Go.Proofs.YtlibdhnlmekmhaaGreatDoor.Chars

def hexS : ByteArray := ⟨#[48, 49, 50, 51, 52, 53, 54, 55, 56, 57, 97, 98, 99, 100, 101, 102]⟩
theorem index_none : ∀ {l : List UInt8} {c : UInt8}, (∀ b ∈ l, b ≠ c) → indexByte l c = -1
  | [], c, _ => rfl
  | b :: l, c, h => by
    have h1 : (b == c) = false := by simpa using h b (by simp)
    have h2 := index_none (l := l) (c := c) fun x hx => h x (List.mem_cons_of_mem _ hx)
    rw [indexByte, h1, h2]
    rfl
theorem high_other (r : Int) (h : 128 ≤ r) (hc : isC r) (hne : r ≠ 65533) (w : World) :
    Calls Tryz.prog 232 #[.string hexS, .int .i32 r] w fun e w' => e = .returned (.int .i64 (-1)) ∧ Below w.heap.size w w' := by
  have HAs : Hid (∀ b ∈ hexS.data.toList, b.toNat < 128) := (show ∀ b ∈ hexS.data.toList, b.toNat < 128 by decide)
  have HSz : Hid (hexS.size = 16) := (rfl : hexS.size = 16)
  generalize hexS = H at *
  have n1 : ¬ r < 128 := by omega
  have n0 : 0 ≤ r := by omega
  have n2 : (r == 65533) = false := by simpa using hne
  have HV := Lib.hid (fun w => (Tryz.utf8_ValidRune r w).mono (R' := fun e w' => e = .returned (.bool (Lib.validRune r)) ∧ w = w') fun e w' ⟨h1, h2⟩ => ⟨h1, h2.symm⟩)
  have hv : Lib.validRune r = true := by
    obtain ⟨a, b, c⟩ := hc
    unfold Lib.validRune
    simp
    omega
  have hv2 : Utf8.valid r = true := by rw [validRune_eq]; exact hv
  obtain ⟨e0, e1, e2⟩ := encode_facts r hv2 h
  rw [hv] at HV
  obtain ⟨U, hU⟩ : ∃ U, Utf8.encode r = U := ⟨_, rfl⟩
  have hcv : ∀ w : World, (convert 21 9 (.int .i32 r)).run Tryz.prog w = .ok (.string U) w := fun w => by
    rw [run_convert_int_string w 21 9 .i32 r (by rw [Tryz.underlying21]; rfl) Tryz.underlying9, hU]
  simp only [hU] at e0 e1 e2
  obtain ⟨L, hL⟩ : ∃ L, U.size = L + 1 := ⟨U.size - 1, by omega⟩
  have e3 : 128 ≤ (U[L]'(by omega)).toNat := by
    have := e2 (by omega)
    simpa only [hL, Nat.add_sub_cancel] using this
  clear hv hv2 hU hc hne e2
  have hL16 : (L : Int) < 16 := by omega
  have hLI : (U.size : Int) - 1 = (L : Int) := by omega
  go_enter Tryz.func232, Tryz.ntmps232
  go_wp2_with (first
    | (go_at_call 244; refine (HV.out _).mono ?_; rintro e w' ⟨rfl, rfl⟩))
  go_step3
  go_wp2_with fail
  go_loopw [9, 10] (fun u v wr => u = .int .i64 (L : Int) ∧ v = .int .i64 0 ∧ Below w.heap.size w wr) (fun _ _ _ => 0)
  case atStart => exact ⟨rfl, rfl, Below.refl _ _⟩
  case round =>
    obtain ⟨rfl, rfl, hb⟩ := hrel
    have hL4 : L < H.size := by have := HSz.out; omega
    have hL0' : (0 : Int) ≤ (L : Int) := by omega
    have hL5 : (L : Int) < (H.size : Int) := by omega
    have hL6 : L < U.size := by omega
    have hx1 : (0 : Int) ≤ (L : Int) ∧ (L : Int) < (H.size : Int) := ⟨hL0', hL5⟩
    have hx2 : (0 : Int) ≤ (L : Int) ∧ (L : Int) < (U.size : Int) := ⟨hL0', by omega⟩
    have hr1 : ∀ w : World, (Instr.index 9 (.string H) (.int .i64 (L : Int))).run Tryz.prog w = .ok (.int .u8 (H[L].toNat : Int)) w := fun w => by
      rw [run_index_string w 9 H .i64 (L : Int) Tryz.underlying9]
      simp [hL4]
    have hr2 : ∀ w : World, (Instr.index 9 (.string U) (.int .i64 (L : Int))).run Tryz.prog w = .ok (.int .u8 (U[L].toNat : Int)) w := fun w => by
      rw [run_index_string w 9 U .i64 (L : Int) Tryz.underlying9]
      simp [hL6]
    have HLH : Hid (H[L].toNat < 128) := HAs.out _ (by
      have : H[L] ∈ H.data.toList := Array.getElem_mem_toList (xs := H.data) hL4
      exact this)
    have hne : (H[L].toNat == U[L].toNat) = false := by
      have := HLH.out
      rw [beq_eq_false_iff_ne]
      omega
    have hne2 : (H[L].toNat != U[L].toNat) = true := by rw [bne, hne]; rfl
    have hU4 : (L : Int) < (U.size : Int) := by omega
    have hL0 : (0 : Int) ≤ (L : Int) := by omega
    go_wp2_with fail
    go_step3
    go_wp2_with fail
    go_quiet (fail)
    go_wp2_with fail
    have hsum : IntKind.i64.wrap ((L : Int) + 1) = (L : Int) + 1 := IntWalk.i64_in _ (by omega)
    have hsl : ∀ w : World, (Instr.slice 9 (.string H) (some (.int .i64 ((L : Int) + 1))) none none).run Tryz.prog w = .ok (.string (H.extract (L + 1) H.size)) w := fun w => by
      rw [run_slice_string_l w 9 H Tryz.underlying9 .i64 ((L : Int) + 1) (by omega) (by omega)]
      congr
    have HIB : Hid (∀ w, Calls Tryz.prog 243 #[.string (H.extract (L + 1) H.size), .int .u8 (U[L].toNat : Int)] w fun e w' => e = .returned (.int .i64 (-1)) ∧ w = w') := fun w => by
      refine (Tryz.strings_IndexByte (H.extract (L + 1) H.size) (U[L].toNat : Int) w).mono ?_
      rintro e w' ⟨he, hw⟩
      rw [index_none (fun b hb e => by
        have h1 := HAs.out b (mem_extract hb)
        rw [e] at h1
        simp at h1
        omega)] at he
      exact ⟨he, hw.symm⟩
    go_quiet ((go_at_call 243; (first | exact quiet_left HIB.out | exact quiet_add HIB.out | exact (HIB.out _).mono fun _ _ ⟨he, hm⟩ => ⟨he, _, hm.symm⟩)))
    go_wp2_with fail
    rw [Exit.noGoto_ret]
    go_wp2_with fail
    rw [Exit.noGoto_ret]
    go_wp2_with fail
    go_ret
    exact ⟨rfl, Own.below_drewN hb _⟩
theorem high_fffd (w : World) :
    Calls Tryz.prog 232 #[.string hexS, .int .i32 65533] w fun e w' => e = .returned (.int .i64 (-1)) ∧ Below w.heap.size w w' := by
  have HAs : Hid (∀ b ∈ hexS.data.toList, b.toNat < 128) := (show ∀ b ∈ hexS.data.toList, b.toNat < 128 by decide)
  have HSz : Hid (hexS.size = 16) := (rfl : hexS.size = 16)
  generalize hexS = H at *
  go_enter Tryz.func232, Tryz.ntmps232
  go_wp2_with fail
  go_loopw [] (fun wr => ∃ pos, wr.heap[w.heap.size]? = some (.stringIter H pos) ∧ Below w.heap.size w wr) (fun wr => H.size - wr.iterPos w.heap.size)
  case atStart => exact ⟨0, World.iter_heap _ _ _, (Below.refl _ _).alloc (Nat.le_refl _) _⟩
  case round =>
    obtain ⟨pos, hit, hb⟩ := hrel
    by_cases hp : pos < H.size
    · have hnx : ∀ ty, (Instr.next (.pointer (some ⟨w.heap.size, 0, none⟩)) true ty).run Tryz.prog wr = _ := fun ty => run_next_any_at wr w.heap.size H pos ty hit hp
      have hd : Utf8.decode H pos = (H[pos].toNat, 1) := by
        rw [← from_decode, from_, List.drop_eq_getElem_cons (by simpa using hp)]
        exact decodeL_ascii _ _ (HAs.out _ (List.getElem_mem _))
      have h128 : H[pos].toNat < 128 := HAs.out _ (by
        have : H[pos] ∈ H.data.toList := Array.getElem_mem_toList (xs := H.data) hp
        exact this)
      rw [hd] at hnx
      have hit2 := iterAt_heap wr w.heap.size H pos (pos + 1) hit
      have hb2 := below_iterAt hb (Nat.le_refl _) H (pos + 1)
      obtain ⟨c, hc⟩ : ∃ c, H[pos].toNat = c := ⟨_, rfl⟩
      rw [hc] at hnx h128
      obtain ⟨wi, hwi⟩ : ∃ wi, wi = wr.iterAt w.heap.size H (pos + 1) := ⟨_, rfl⟩
      rw [← hwi] at hit2 hb2
      change ∀ ty, (Instr.next (.pointer (some ⟨w.heap.size, 0, none⟩)) true ty).run Tryz.prog wr = .ok (.tuple #[.bool true, .int .i64 pos, .int .i32 c]) (wr.iterAt w.heap.size H (pos + 1)) at hnx
      rw [← hwi] at hnx
      have n1 : ((c : Int) == 65533) = false := by simp; omega
      have n2 : (c == 65533) = false := by simp; omega
      have HI0 := Lib.hid hit
      have HI2 := Lib.hid hit2
      have HB2 := Lib.hid hb2
      clear hit hit2 hb2 hb hd hwi hc h128
      go_wp2_with fail
      go_roundw
      case rel => exact ⟨pos + 1, HI2.out, HB2.out⟩
      case measure =>
        have e1 : wi.iterPos w.heap.size = pos + 1 := by simp [World.iterPos, HI2.out]
        have e2 : wr.iterPos w.heap.size = pos := by simp [World.iterPos, HI0.out]
        omega
    · have hnx : ∀ ty, (Instr.next (.pointer (some ⟨w.heap.size, 0, none⟩)) true ty).run Tryz.prog wr = _ := fun ty => run_next_end_at wr w.heap.size H pos ty hit hp
      have HB2 := Lib.hid hb
      clear hb hit
      go_wp2_with fail
      go_ret
      exact ⟨rfl, HB2.out⟩
/-- The place of a hexadecimal digit. -/
theorem hex_index : ∀ d : Nat, d < 128 → indexByte hexS.data.toList (Int.toNat (d : Int)).toUInt8 = if 48 ≤ d ∧ d ≤ 57 then (d : Int) - 48 else if 97 ≤ d ∧ d ≤ 102 then (d : Int) - 87 else -1 := by decide +kernel
theorem digit_any (c : Int) (hc : isC c) (w : World) :
    Calls Tryz.prog 212 #[.int .i64 c] w fun e w' => e = .returned (.int .i64 (digZ c)) ∧ Below w.heap.size w w' := by
  have hd := down_is c ((isZ_iff c).2 hc)
  have hdc := (isZ_iff _).1 hd
  have HD := Lib.hid (down_any c w (by have := hc.1; omega) (by have := hc.2.1; omega))
  have HI : Hid (∀ W, Calls Tryz.prog 232 #[.string hexS, .int .i32 (downZ c)] W fun e w' => e = .returned (.int .i64 (digZ c)) ∧ Below W.heap.size W w') := fun W => by
    by_cases h : downZ c < 128
    · refine (Tryz.strings_IndexRune_ascii hexS (downZ c) W hdc.1 h).mono ?_
      rintro e w' ⟨he, rfl⟩
      refine ⟨?_, Below.refl _ _⟩
      obtain ⟨d, hdd⟩ := Int.eq_ofNat_of_zero_le hdc.1
      have := hex_index d (by omega)
      rw [he, hdd, this]
      unfold digZ
      rw [hdd]
      congr 2
      split
      · rw [if_pos (by omega)]
      · split
        · rw [if_neg (by omega), if_pos (by omega)]
        · rw [if_neg (by omega), if_neg (by omega)]
    · have e1 : digZ c = -1 := by
        unfold digZ
        rw [if_neg (by omega), if_neg (by omega)]
      rw [e1]
      by_cases hf : downZ c = 65533
      · rw [hf]
        exact high_fffd W
      · exact high_other _ (by omega) hdc hf W
  have h0 := hdc.1
  have h1 := hdc.2.1
  clear hd hdc hc
  generalize downZ c = d at *
  generalize digZ c = z at *
  have HI2 : Hid (∀ W, Calls Tryz.prog 232 #[.string ⟨#[48, 49, 50, 51, 52, 53, 54, 55, 56, 57, 97, 98, 99, 100, 101, 102]⟩, .int .i32 d] W fun e w' => e = .returned (.int .i64 z) ∧ Below W.heap.size W w') := HI
  clear HI
  go_enter Tryz.func212, Tryz.ntmps212
  go_wp2_with (first
    | (go_at_call 202; refine HD.out.mono ?_; rintro e w1 ⟨rfl, hb1⟩)
    | (go_at_call 232; refine (HI2.out _).mono ?_; rintro e w2 ⟨rfl, hb2⟩))
  go_ret
  exact ⟨rfl, hb1.trans (hb2.mono hb1.size)⟩
theorem control_yes (c k : Int) (h : ctlZ c = some k) (x : Int) (w : World) : Calls Tryz.prog 197 #[.int .i64 c, .int .i64 x] w fun e w' => e = .returned (.int .i64 k) ∧ w = w' := by
  unfold ctlZ at h
  go_enter Tryz.func197, Tryz.ntmps197
  go_wp2
  all_goals first
    | (go_ret; exact ⟨by simp_all, rfl⟩)
    | (exfalso; simp_all)
theorem control_no (c : Int) (h : ctlZ c = none) (k : Nat) (w : World) : Calls Tryz.prog 197 #[.int .i64 c, .int .i64 (k : Int)] w fun e w' => e = faultE 5 k ∧ w = w' := by
  have n1 : (c == 110) = false := by rw [beq_eq_false_iff_ne]; rintro rfl; cases h
  have n2 : (c == 116) = false := by rw [beq_eq_false_iff_ne]; rintro rfl; cases h
  have n3 : (c == 101) = false := by rw [beq_eq_false_iff_ne]; rintro rfl; cases h
  clear h
  unfold faultE
  go_enter Tryz.func197, Tryz.ntmps197
  go_wp2
  exact ⟨rfl, rfl, rfl⟩
end Go.Proofs.YtlibdhnlmekmhaaGreatDoor.Rd
end

/- The contracts of numbered, textEscape. -/
section
namespace Go.Proofs.YtlibdhnlmekmhaaGreatDoor.Rd
set_option maxRecDepth 100000
open Go.RowKit Go.Lib
open Go.Proofs.YtlibdhnlmekmhaaGreatDoor.Own Go.Proofs.YtlibdhnlmekmhaaGreatDoor.Hp Go.Proofs.YtlibdhnlmekmhaaGreatDoor.Rep Go.Proofs.YtlibdhnlmekmhaaGreatDoor.Get Go.Proofs.YtlibdhnlmekmhaaGreatDoor.Utf Go.Proofs.YtlibdhnlmekmhaaGreatDoor.Chars

/-- How a method ends that neither creates nor interns. -/
def OutS {α : Type} (X : Fx) (w : World) (op : Nat) (s : St) (F : Nat → Prop) (ret : α → Ending) (R : Sc α) (e : Ending) (w' : World) : Prop :=
  match R with
  | .ok x r => e = ret x ∧ ∃ a', PS X w' a' op ⟨r, s.ob, s.tb⟩ F ∧ PAfter X w w' F F
  | .bad m => e = faultE 5 (X.l.length - m) ∧ HT w' X.base X.hp X.lim X.tp s.ob s.tb F ∧ PAfter X w w' F F
def retI (n : Int) : Ending := .returned (.int .i64 n)
theorem dig_lt (c : Int) : digZ c < 16 := by
  unfold digZ
  split
  · omega
  · split <;> omega

/-- Between two rounds of numbered. -/
def HexAt (X : Fx) (w wr : World) (op : Nat) (s : St) (F : Nat → Prop) (st : Nat) (R : Sc Int) (u5 u6 u7 : Value) : Prop :=
  ∃ (k N : Nat) (c : Int) (r : List Int) (a' : Nat), u5 = .int .i64 (N : Int) ∧ u6 = .int .i64 (k : Int) ∧ u7 = .int .i64 c ∧ PS X wr a' op ⟨r, s.ob, s.tb⟩ F ∧ PAfter X w wr F F ∧ hexF st k N (c :: r) = R ∧ isC c ∧ N < 16 ^ k ∧ k ≤ 6

set_option maxHeartbeats 2000000 in
theorem PS.numbered {X : Fx} {w : World} {a op : Nat} {s : St} {F : Nat → Prop} (h : PS X w a op s F) (hX : X.Ok) (st k0 : Nat) (hk0 : k0 = X.l.length - st) :
    Calls Tryz.prog 196 #[pptr X.p, .int .i64 (k0 : Int)] w (OutS X w op s F retI (hexF st 0 0 s.rest)) := by
  obtain ⟨R, hR⟩ : ∃ R, hexF st 0 0 s.rest = R := ⟨_, rfl⟩
  rw [hR]
  have HX := Lib.hid hX
  have HK := Lib.hid hk0
  have HH := Lib.hid h
  cases hr : s.rest with
  | nil =>
    rw [hr] at hR
    have hR2 : R = .bad 0 := hR.symm
    subst hR2
    have HT := Lib.hid (h.takeEnd hX hr)
    clear h hr hR hX hk0
    go_enter Tryz.func196, Tryz.ntmps196
    go_wp2_with fail
    refine HT.out.mono ?_
    rintro e w2 ⟨rfl, rfl⟩
    unfold faultE
    go_wp2_with fail
    exact ⟨rfl, rfl, HH.out.ht, .refl _ _ _⟩
  | cons c r =>
    rw [hr] at hR
    have hcc : isC c := hX.chars c (List.mem_of_mem_drop (by rw [h.at_, hr]; simp))
    have HT := Lib.hid (h.take hX hr)
    have HR := Lib.hid hR
    clear h hr hR hX hk0
    go_enter Tryz.func196, Tryz.ntmps196
    go_wp2_with fail
    refine HT.out.mono ?_
    rintro e w2 ⟨rfl, hP2, hA2⟩
    have H0 := Lib.hid (show HexAt X w w2 op s F st R (.int .i64 0) (.int .i64 0) (.int .i64 c) from ⟨0, 0, c, r, a + 1, rfl, rfl, rfl, hP2, hA2, HR.out, hcc, by simp, by omega⟩)
    clear hP2 hA2 hcc
    go_wp2_with fail
    go_loopw [5, 6, 7] (fun u5 u6 u7 wr => HexAt X w wr op s F st R u5 u6 u7) (fun _ _ _ wr => X.l.length - atOf wr X.p)
    case atStart => exact H0.out
    case round =>
      obtain ⟨k, N, c, r, a1, rfl, rfl, rfl, hP, hA, hh, hc, hN, hk⟩ := hrel
      have HP1 := Lib.hid hP.atIs
      have HPA := Lib.hid (And.intro hP hA)
      have hdl := dig_lt c
      have HDg := Lib.hid (digit_any c hc)
      have HCc := Lib.hid hc
      rw [hexF] at hh
      by_cases hgo : k < 6 ∧ 0 ≤ digZ c
      · rw [if_pos hgo] at hh
        obtain ⟨hk6, hd0⟩ := hgo
        obtain ⟨D, hD⟩ := Int.eq_ofNat_of_zero_le hd0
        rw [hD] at hh HDg hdl
        have hpow : 16 ^ k ≤ 16 ^ 5 := Nat.pow_le_pow_right (by omega) (by omega)
        have hN2 : N < 1048576 := by omega
        have hN3 : 16 * N + D < 16 ^ (k + 1) := by rw [Nat.pow_succ]; omega
        have hkz : (k : Int) < 6 := by omega
        have hD16 : (D : Int) < 16 := hdl
        have hNz : (N : Int) < 1048576 := by omega
        have HN3 := Lib.hid hN3
        have HK6 := Lib.hid hk6
        cases r with
        | nil =>
          have hR2 : R = .bad 0 := by rw [← hh, hexF]
          subst hR2
          have HTE := Lib.hid (fun W (hPW : PS X W a1 op ⟨[], s.ob, s.tb⟩ F) => hPW.takeEnd HX.out rfl)
          clear hh hP hA hc hN hk hk6 hd0 hD hpow hN2 hN3 hdl
          go_wp2_with fail
          refine (HDg.out _).mono ?_
          rintro e w4 ⟨rfl, hb4⟩
          have HB4 := Lib.hid hb4
          clear hb4
          go_wp2_with fail
          refine (HDg.out _).mono ?_
          rintro e w5 ⟨rfl, hb5⟩
          have HB5 := Lib.hid hb5
          clear hb5
          go_wp2_with fail
          refine (HTE.out _ (HPA.out.1.later (HB4.out.trans (HB5.out.mono HB4.out.size)))).mono ?_
          rintro e w6 ⟨rfl, rfl⟩
          unfold faultE
          go_wp2_with fail
          have hb := HB4.out.trans (HB5.out.mono HB4.out.size)
          exact ⟨rfl, rfl, (HPA.out.1.later hb).ht, HPA.out.2.then_below hb⟩
        | cons c2 r =>
          have hc2 : isC c2 := HX.out.chars c2 (List.mem_of_mem_drop (by rw [hP.at_]; simp))
          have HTk := Lib.hid (fun W (hPW : PS X W a1 op ⟨c2 :: r, s.ob, s.tb⟩ F) => hPW.take HX.out rfl)
          have HF := Lib.hid (fun W (hPW : PS X W (a1 + 1) op ⟨r, s.ob, s.tb⟩ F) (hAW : PAfter X w W F F) => show HexAt X w W op s F st R (.int .i64 (16 * (N : Int) + (D : Int))) (.int .i64 ((k : Int) + 1)) (.int .i64 c2) from
            ⟨k + 1, 16 * N + D, c2, r, a1 + 1, by simp, by simp, rfl, hPW, hAW, by rw [← hh]; simp, hc2, HN3.out, by have := HK6.out; omega⟩)
          have HLe : Hid (a1 + 1 ≤ X.l.length) := by
            have := hP.n
            show _ ≤ _
            simp at this
            omega
          clear hh hP hA hc hN hk hk6 hd0 hD hpow hN2 hN3 hdl hc2
          go_wp2_with fail
          refine (HDg.out _).mono ?_
          rintro e w4 ⟨rfl, hb4⟩
          have HB4 := Lib.hid hb4
          clear hb4
          go_wp2_with fail
          refine (HDg.out _).mono ?_
          rintro e w5 ⟨rfl, hb5⟩
          have HB5 := Lib.hid hb5
          clear hb5
          go_wp2_with fail
          have hb := HB4.out.trans (HB5.out.mono HB4.out.size)
          have hA5 := Lib.hid (HPA.out.2.then_below hb)
          refine (HTk.out _ (HPA.out.1.later hb)).mono ?_
          clear hb
          rintro e w6 ⟨rfl, hP6, hA6⟩
          have HP6 := Lib.hid hP6
          have HA6 := Lib.hid (hA5.out.trans hA6)
          clear hP6 hA6
          go_wp2_with fail
          go_roundw
          case rel => exact HF.out _ HP6.out HA6.out
          case measure => have h1 := HP1.out; have h2 := HP6.out.atIs; have h3 := HLe.out; rw [h1, h2]; omega
      · rw [if_neg hgo] at hh
        have HIs := Lib.hid (fun W => is_any (N : Int) W)
        have hpow : 16 ^ k ≤ 16 ^ 6 := Nat.pow_le_pow_right (by omega) hk
        have hN2 : (N : Int) < 16777216 := by omega
        have HG := Lib.hid hgo
        by_cases hbad : k = 0 ∨ c ≠ 92 ∨ isZ (N : Int) = false
        · rw [if_pos hbad] at hh
          subst hh
          by_cases hk6 : k < 6
          · have hd0 : digZ c < 0 := by have : ¬ 0 ≤ digZ c := fun e => hgo ⟨hk6, e⟩; omega
            obtain ⟨d, hd⟩ : ∃ d, digZ c = d := ⟨_, rfl⟩
            rw [hd] at hd0 HDg
            have hkz : (k : Int) < 6 := by omega
            by_cases e0 : k = 0
            · subst e0
              clear hP hA hc hN hk hpow hgo hbad hd hdl hN2
              go_wp2_with fail
              refine (HDg.out _).mono ?_
              rintro e w4 ⟨rfl, hb4⟩
              have HB4 := Lib.hid hb4
              clear hb4
              go_wp2_with fail
              exact ⟨rfl, by rw [HK.out]; rfl, (HPA.out.1.later HB4.out).ht, HPA.out.2.then_below HB4.out⟩
            · have z0 : ((k : Int) == 0) = false := by simp; omega
              have z0' : (k == 0) = false := by simp; omega
              by_cases e92 : c = 92
              · have hz : isZ (N : Int) = false := by rcases hbad with e | e | e; exact absurd e e0; exact absurd e92 e; exact e
                rw [hz] at HIs
                subst e92
                clear hP hA hc hN hk hpow hgo hbad hd hdl hN2 hz e0
                go_wp2_with fail
                refine (HDg.out _).mono ?_
                rintro e w4 ⟨rfl, hb4⟩
                have HB4 := Lib.hid hb4
                clear hb4
                go_wp2_with fail
                refine (HIs.out _).mono ?_
                rintro e w5 ⟨rfl, rfl⟩
                go_wp2_with fail
                exact ⟨rfl, by rw [HK.out]; rfl, (HPA.out.1.later HB4.out).ht, HPA.out.2.then_below HB4.out⟩
              · have n92 : (c != 92) = true := by simpa using e92
                clear hP hA hc hN hk hpow hgo hbad hd hdl hN2 e0 e92
                go_wp2_with fail
                refine (HDg.out _).mono ?_
                rintro e w4 ⟨rfl, hb4⟩
                have HB4 := Lib.hid hb4
                clear hb4
                go_wp2_with fail
                exact ⟨rfl, by rw [HK.out]; rfl, (HPA.out.1.later HB4.out).ht, HPA.out.2.then_below HB4.out⟩
          · have hk6' : k = 6 := by omega
            subst hk6'
            by_cases e92 : c = 92
            · have hz : isZ (N : Int) = false := by rcases hbad with e | e | e; omega; exact absurd e92 e; exact e
              rw [hz] at HIs
              subst e92
              clear hP hA hc hN hk hpow hgo hbad hdl hN2 hz hk6
              go_wp2_with fail
              refine (HIs.out _).mono ?_
              rintro e w5 ⟨rfl, rfl⟩
              go_wp2_with fail
              exact ⟨rfl, by rw [HK.out]; rfl, HPA.out.1.ht, HPA.out.2⟩
            · have n92 : (c != 92) = true := by simpa using e92
              clear hP hA hc hN hk hpow hgo hbad hdl hN2 hk6 e92
              go_wp2_with fail
              exact ⟨rfl, by rw [HK.out]; rfl, HPA.out.1.ht, HPA.out.2⟩
        · rw [if_neg hbad] at hh
          subst hh
          simp only [not_or, ne_eq, Classical.not_not, Bool.not_eq_false] at hbad
          obtain ⟨e0, rfl, hz⟩ := hbad
          rw [hz] at HIs
          have z0 : ((k : Int) == 0) = false := by simp; omega
          have z0' : (k == 0) = false := by simp; omega
          by_cases hk6 : k < 6
          · have hd0 : digZ 92 < 0 := by have : ¬ 0 ≤ digZ 92 := fun e => hgo ⟨hk6, e⟩; omega
            obtain ⟨d, hd⟩ : ∃ d, digZ 92 = d := ⟨_, rfl⟩
            rw [hd] at hd0 HDg
            have hkz : (k : Int) < 6 := by omega
            clear hP hA hc hN hk hpow hgo hd hdl hN2 hz e0
            go_wp2_with fail
            refine (HDg.out _).mono ?_
            rintro e w4 ⟨rfl, hb4⟩
            have HB4 := Lib.hid hb4
            clear hb4
            go_wp2_with fail
            refine (HIs.out _).mono ?_
            rintro e w5 ⟨rfl, rfl⟩
            go_wp2_with fail
            go_ret
            exact ⟨rfl, a1, HPA.out.1.later HB4.out, HPA.out.2.then_below HB4.out⟩
          · have hkz : ¬ (k : Int) < 6 := by omega
            clear hP hA hc hN hk hpow hgo hdl hN2 hz e0
            go_wp2_with fail
            refine (HIs.out _).mono ?_
            rintro e w5 ⟨rfl, rfl⟩
            go_wp2_with fail
            go_ret
            exact ⟨rfl, a1, HPA.out.1, HPA.out.2⟩
end Go.Proofs.YtlibdhnlmekmhaaGreatDoor.Rd
end

/- The contract of textEscape. -/
section
namespace Go.Proofs.YtlibdhnlmekmhaaGreatDoor.Rd
set_option maxRecDepth 100000
open Go.RowKit Go.Lib
open Go.Proofs.YtlibdhnlmekmhaaGreatDoor.Own Go.Proofs.YtlibdhnlmekmhaaGreatDoor.Hp Go.Proofs.YtlibdhnlmekmhaaGreatDoor.Rep Go.Proofs.YtlibdhnlmekmhaaGreatDoor.Get Go.Proofs.YtlibdhnlmekmhaaGreatDoor.Utf Go.Proofs.YtlibdhnlmekmhaaGreatDoor.Chars

def retO (o : Option Int) : Ending := .returned (.int .i64 (o.getD (-1)))
set_option maxHeartbeats 1000000 in
theorem PS.textEscape {X : Fx} {w : World} {a op : Nat} {s : St} {F : Nat → Prop} (h : PS X w a op s F) (hX : X.Ok) (ha : 1 ≤ a) :
    Calls Tryz.prog 172 #[pptr X.p] w (OutS X w op s F retO (escF s.rest)) := by
  have HX := Lib.hid hX
  have HH := Lib.hid h
  obtain ⟨_, _, _, c3, _, _⟩ := Blk.six h.blk
  obtain ⟨b, rfl⟩ : ∃ b, a = b + 1 := ⟨a - 1, by omega⟩
  have hsub : ((b + 1 : Nat) : Int) - 1 = (b : Int) := by omega
  have hn := h.n
  have hs := hX.short
  have hb0 : (b : Int) + 1 ≤ 1000000 := by omega
  cases hr : s.rest with
  | nil =>
    have HT := Lib.hid (h.takeEnd hX hr)
    clear h hr hX hn hs
    go_enter Tryz.func172, Tryz.ntmps172
    go_wp2_with fail
    refine HT.out.mono ?_
    rintro e w2 ⟨rfl, rfl⟩
    unfold faultE
    go_wp2_with fail
    exact ⟨rfl, rfl, HH.out.ht, .refl _ _ _⟩
  | cons d r =>
    have HT := Lib.hid (h.take hX hr)
    rw [hr] at hn
    have HPos : Hid (b = X.l.length - (r.length + 2)) := by
      show _ = _
      simp at hn
      omega
    rw [escF]
    by_cases h1 : d = 92 ∨ d = 34
    · rw [if_pos h1]
      clear h hr hX hn hs
      rcases h1 with rfl | rfl
      · go_enter Tryz.func172, Tryz.ntmps172
        go_wp2_with fail
        refine HT.out.mono ?_
        rintro e w2 ⟨rfl, hP, hA⟩
        have HP := Lib.hid (And.intro hP hA)
        clear hP hA c3
        go_wp2_with fail
        go_ret
        exact ⟨rfl, _, HP.out⟩
      · go_enter Tryz.func172, Tryz.ntmps172
        go_wp2_with fail
        refine HT.out.mono ?_
        rintro e w2 ⟨rfl, hP, hA⟩
        have HP := Lib.hid (And.intro hP hA)
        clear hP hA c3
        go_wp2_with fail
        go_ret
        exact ⟨rfl, _, HP.out⟩
    · rw [if_neg h1]
      have n1 : (d == 92) = false := by rw [beq_eq_false_iff_ne]; exact fun e => h1 (.inl e)
      have n2 : (d == 34) = false := by rw [beq_eq_false_iff_ne]; exact fun e => h1 (.inr e)
      by_cases h10 : d = 10
      · rw [if_pos h10]
        subst h10
        clear h hr hX hn hs h1
        go_enter Tryz.func172, Tryz.ntmps172
        go_wp2_with fail
        refine HT.out.mono ?_
        rintro e w2 ⟨rfl, hP, hA⟩
        have HP := Lib.hid (And.intro hP hA)
        clear hP hA c3
        go_wp2_with fail
        go_ret
        exact ⟨rfl, _, HP.out⟩
      · rw [if_neg h10]
        have n3 : (d == 10) = false := by simpa using h10
        by_cases hx : d = 120
        · rw [if_pos hx]
          subst hx
          have hn2 := fun W (hW : PS X W (b + 1 + 1) op ⟨r, s.ob, s.tb⟩ F) => hW.numbered HX.out (r.length + 2) b HPos.out
          simp only at hn2
          cases hq : hexF (r.length + 2) 0 0 r with
          | ok n r2 =>
            rw [hq] at hn2
            have HN := Lib.hid hn2
            dsimp only
            clear h hr hX hn hs h1 h10 hn2 hq
            go_enter Tryz.func172, Tryz.ntmps172
            go_wp2_with fail
            refine HT.out.mono ?_
            rintro e w2 ⟨rfl, hP, hA⟩
            have HP := Lib.hid (And.intro hP hA)
            clear hP hA c3
            go_wp2_with fail
            refine (HN.out _ HP.out.1).mono ?_
            rintro e w3 ⟨rfl, a2, hP2, hA2⟩
            have HP2 := Lib.hid (And.intro hP2 hA2)
            clear hP2 hA2
            unfold retI
            go_wp2_with fail
            go_ret
            exact ⟨rfl, a2, HP2.out.1, HP.out.2.trans HP2.out.2⟩
          | bad m =>
            rw [hq] at hn2
            have HN := Lib.hid hn2
            dsimp only
            clear h hr hX hn hs h1 h10 hn2 hq
            go_enter Tryz.func172, Tryz.ntmps172
            go_wp2_with fail
            refine HT.out.mono ?_
            rintro e w2 ⟨rfl, hP, hA⟩
            have HP := Lib.hid (And.intro hP hA)
            clear hP hA c3
            go_wp2_with fail
            refine (HN.out _ HP.out.1).mono ?_
            rintro e w3 ⟨rfl, hP2, hA2⟩
            have HP2 := Lib.hid (And.intro hP2 hA2)
            clear hP2 hA2
            unfold faultE
            go_wp2_with fail
            exact ⟨rfl, rfl, HP2.out.1, HP.out.2.trans HP2.out.2⟩
        · rw [if_neg hx]
          have n4 : (d == 120) = false := by simpa using hx
          cases hc : ctlZ d with
          | some k =>
            have HC := Lib.hid (fun x W => control_yes d k hc x W)
            clear h hr hX hn hs h1 h10 hx hc
            go_enter Tryz.func172, Tryz.ntmps172
            go_wp2_with fail
            refine HT.out.mono ?_
            rintro e w2 ⟨rfl, hP, hA⟩
            have HP := Lib.hid (And.intro hP hA)
            clear hP hA c3
            go_wp2_with fail
            refine (HC.out _ _).mono ?_
            rintro e w3 ⟨rfl, rfl⟩
            go_wp2_with fail
            go_ret
            exact ⟨rfl, _, HP.out⟩
          | none =>
            have HC := Lib.hid (fun x W => control_no d hc x W)
            clear h hr hX hn hs h1 h10 hx hc
            go_enter Tryz.func172, Tryz.ntmps172
            go_wp2_with fail
            refine HT.out.mono ?_
            rintro e w2 ⟨rfl, hP, hA⟩
            have HP := Lib.hid (And.intro hP hA)
            clear hP hA c3
            go_wp2_with fail
            refine (HC.out b _).mono ?_
            rintro e w3 ⟨rfl, rfl⟩
            unfold faultE
            go_wp2_with fail
            exact ⟨rfl, by rw [HPos.out]; rfl, HP.out.1.ht, HP.out.2⟩
end Go.Proofs.YtlibdhnlmekmhaaGreatDoor.Rd
end
