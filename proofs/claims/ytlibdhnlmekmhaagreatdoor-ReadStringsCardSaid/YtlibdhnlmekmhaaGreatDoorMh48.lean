/- ReadStrings: the walk of the statement. -/
import Derived.Test.YtlibdhnlmekmhaaGreatDoorMh15
import Derived.Test.YtlibdhnlmekmhaaGreatDoorMh46
import Derived.Test.YtlibdhnlmekmhaaGreatDoorMh47
namespace Go.Proofs.YtlibdhnlmekmhaaGreatDoor.Rd
set_option maxRecDepth 100000
open Go.RowKit Go.Maps Go.Lib
open Go.Proofs.YtlibdhnlmekmhaaGreatDoor.Own Go.Proofs.YtlibdhnlmekmhaaGreatDoor.Hp Go.Proofs.YtlibdhnlmekmhaaGreatDoor.Rep Go.Proofs.YtlibdhnlmekmhaaGreatDoor.Get Go.Proofs.YtlibdhnlmekmhaaGreatDoor.Add Go.Proofs.YtlibdhnlmekmhaaGreatDoor.Make Go.Proofs.YtlibdhnlmekmhaaGreatDoor.Utf Go.Proofs.YtlibdhnlmekmhaaGreatDoor.Strs Go.Proofs.YtlibdhnlmekmhaaGreatDoor.Clone Go.Proofs.YtlibdhnlmekmhaaGreatDoor.Car Go.Proofs.YtlibdhnlmekmhaaGreatDoor.Kit
open Go.Proofs.YtlibdhnlmekmhaaGreatDoor.Nt hiding Wd
open Go.Proofs.YtlibdhnlmekmhaaGreatDoor.Lst (IntSl)

theorem intsl_of {w : World} {v : Value} {l : List Int} (h : SlR w v l.length (l.map (Value.int .i64))) : IntSl w v l := by
  obtain ⟨A, cap, hv, hc, hr⟩ := h
  refine ⟨A, cap, hv, hc, fun h0 => ?_⟩
  obtain ⟨g, off, hA, hj⟩ := hr h0
  refine ⟨g, off, hA, fun j hjl => hj j _ ?_⟩
  rw [List.getElem?_map, List.getElem?_eq_getElem hjl]
  simp [List.getD, List.getElem?_eq_getElem hjl]
theorem text_long (v : Value) (l : List Int) (w : World) (h : IntSl w v l) (hl : 65536 < l.length) :
    Calls Tryz.prog 30 #[v] w fun e w' => e = .returned (.tuple #[.string ⟨#[]⟩, .int .i64 4]) ∧ Below w.heap.size w w' := by
  obtain ⟨A, cap, rfl, _, _⟩ := h
  have hz : (65536 : Int) < (l.length : Int) := by omega
  go_enter Tryz.func30, Tryz.ntmps30
  go_wp2
  go_ret2
  exact ⟨rfl, Below.refl _ _⟩
/-- Whatever was given, Text returns. -/
theorem text_some (v : Value) (l : List Int) (w : World) (h : IntSl w v l) :
    Calls Tryz.prog 30 #[v] w fun e w' => (∃ (S : ByteArray) (c : Int), e = .returned (.tuple #[.string S, .int .i64 c])) ∧ Below w.heap.size w w' := by
  by_cases hl : 65536 < l.length
  · refine (text_long v l w h hl).mono ?_
    rintro e w' ⟨rfl, hb⟩
    exact ⟨⟨_, _, rfl⟩, hb⟩
  · by_cases hC : ∀ c ∈ l, isC c
    · refine (RefStrs.ref_text_ok v l w h (by omega) hC).mono ?_
      rintro e w' ⟨rfl, hb⟩
      exact ⟨⟨_, _, rfl⟩, hb⟩
    · refine (RefStrs.ref_text_bad v l w h (by omega) hC).mono ?_
      rintro e w' ⟨rfl, hb⟩
      exact ⟨⟨_, _, rfl⟩, hb⟩
set_option maxHeartbeats 2000000 in
theorem strs_light (v u : Value) (l : List Int) (bs : List Bool) (w : World) (hv : SlR w v l.length (l.map (Value.int .i64))) (hu : SlR w u bs.length (bs.map Value.bool)) (hS : Sys w) (h : 300 < l.length ∨ bs.length < l.length ∨ ¬ ∀ c ∈ l, isC c) :
    Calls Tryz.prog 7 #[v, u] w fun e w' => e = .returned (.bool true) ∧ Below w.heap.size w w' := by
  have HL := Lib.hid (lives_any w hS)
  have HV := Lib.hid hv
  obtain ⟨A, cap, rfl, _, _⟩ := hv
  obtain ⟨A2, cap2, rfl, _, _⟩ := hu
  by_cases h1 : 300 < l.length
  · have hg : decide ((300 : Int) < (l.length : Int)) = true := by simp; omega
    clear hS h
    go_enter Tryz.func7, Tryz.ntmps7
    go_wp2_with fail
    refine HL.out.mono ?_
    rintro e w1 ⟨rfl, hb1⟩
    have HB := Lib.hid hb1
    have HT := Lib.hid (text_some _ l w1 (intsl_of (HV.out.below hb1)))
    clear hb1
    go_wp2_with fail
    refine HT.out.mono ?_
    rintro e w2 ⟨⟨S, c, rfl⟩, hb2⟩
    have HB2 := Lib.hid (HB.out.trans (hb2.mono HB.out.size))
    clear hb2
    go_wp2_with fail
    go_ret
    exact ⟨rfl, HB2.out⟩
  have hg : decide ((300 : Int) < (l.length : Int)) = false := by simp; omega
  by_cases h2 : bs.length < l.length
  · have hg2 : decide ((bs.length : Int) < (l.length : Int)) = true := by simp; omega
    clear hS h
    go_enter Tryz.func7, Tryz.ntmps7
    go_wp2_with fail
    refine HL.out.mono ?_
    rintro e w1 ⟨rfl, hb1⟩
    have HB := Lib.hid hb1
    have HT := Lib.hid (text_some _ l w1 (intsl_of (HV.out.below hb1)))
    clear hb1
    go_wp2_with fail
    refine HT.out.mono ?_
    rintro e w2 ⟨⟨S, c, rfl⟩, hb2⟩
    have HB2 := Lib.hid (HB.out.trans (hb2.mono HB.out.size))
    clear hb2
    go_wp2_with fail
    go_ret
    exact ⟨rfl, HB2.out⟩
  have hg2 : decide ((bs.length : Int) < (l.length : Int)) = false := by simp; omega
  have hg3 : decide (bs.length < l.length) = false := by simp; omega
  have hC : ¬ ∀ c ∈ l, isC c := by
    rcases h with h | h | h
    · exact (h1 h).elim
    · exact (h2 h).elim
    · exact h
  have hl : l.length ≤ 65536 := by omega
  have HT := Lib.hid (fun (w1 : World) (hb : Below w.heap.size w w1) => RefStrs.ref_text_bad _ l w1 (intsl_of (HV.out.below hb)) hl hC)
  clear hS h hC hl
  go_enter Tryz.func7, Tryz.ntmps7
  go_wp2_with fail
  refine HL.out.mono ?_
  rintro e w1 ⟨rfl, hb1⟩
  have HB := Lib.hid hb1
  clear hb1
  go_wp2_with fail
  refine (HT.out w1 HB.out).mono ?_
  rintro e w2 ⟨rfl, hb2⟩
  have HB2 := Lib.hid (HB.out.trans (hb2.mono HB.out.size))
  clear hb2
  go_wp2_with fail
  go_ret
  exact ⟨rfl, HB2.out⟩
theorem NS.textOf {w wr : World} {lim tp : Nat} {ob : Obs} {tb : Tb} {bs : List Bx} (h : NS w wr lim tp ob tb bs) (x : Wd) :
    Reads wr 32 #[ptr w.heap.size, wd x] (.tuple #[.string (Elem.textOfO ob x).1, .int .i64 (Elem.textOfO ob x).2]) := by
  obtain ⟨F, hH, _⟩ := h.st
  obtain ⟨lh, lt, PH, PT, hH, hT, hd, hF⟩ := hH.is
  exact Elem.textOf_any hH x
/-- The characters with their choices. -/
def pairsZ (bs : List Bool) (l : List Int) : List (Bool × Int) := bs.zip l
/-- The string of the statement behind i rounds. -/
structure Sp (ps : List (Bool × Int)) (i : Nat) (S : ByteArray) : Prop where
  s : S.data.toList = enc (34 :: txtZ (ps.take i))
  len : S.size ≤ 1 + 36 * i
theorem Sp.start (ps : List (Bool × Int)) : Sp ps 0 ⟨#[34]⟩ := ⟨rfl, by decide⟩
theorem Sp.push {ps : List (Bool × Int)} {i : Nat} {p : Bool × Int} {S P : ByteArray} (h : Sp ps i S) (hp : ps[i]? = some p) (hc : isC p.2) (hP : P.data.toList = enc (litZ p.1 p.2)) : Sp ps (i + 1) (S ++ P) := by
  have ht : ps.take (i + 1) = ps.take i ++ [p] := by rw [List.take_add_one, hp]; rfl
  refine ⟨?_, ?_⟩
  · rw [str_add, h.s, hP, ht, txtZ_push, ← enc_append]
    rfl
  · have h1 := enc_len4 (litZ p.1 p.2)
    have h2 := litZ_len (b := p.1) hc
    have h3 : P.size = (enc (litZ p.1 p.2)).length := by rw [Lib.size_eq, hP]
    have := h.len
    rw [ByteArray.size_append]
    omega

set_option maxHeartbeats 8000000 in
theorem strs_main (v u : Value) (l : List Int) (bs : List Bool) (w : World) (hv : SlR w v l.length (l.map (Value.int .i64))) (hu : SlR w u bs.length (bs.map Value.bool)) (hS : Sys w) (h1 : l.length ≤ 300) (h2 : l.length ≤ bs.length) (hC : ∀ c ∈ l, isC c) :
    Calls Tryz.prog 7 #[v, u] w fun e w' => e = .returned (.bool true) ∧ Below w.heap.size w w' := by
  have HL := Lib.hid (lives_any w hS)
  have HS0 := Lib.hid hS
  have hl : l.length ≤ 65536 := by omega
  have HT := Lib.hid (fun (w1 : World) (hb : Below w.heap.size w w1) => RefStrs.ref_text_ok v l w1 (intsl_of (hv.below hb)) hl hC)
  have HCC := Lib.hid hC
  obtain ⟨n, hn⟩ : ∃ n, l.length = n := ⟨_, rfl⟩
  obtain ⟨m, hm⟩ : ∃ m, bs.length = m := ⟨_, rfl⟩
  obtain ⟨A, cap, rfl, hcap, hcell⟩ := hv
  obtain ⟨A2, cap2, rfl, hcap2, hcell2⟩ := hu
  have HQ := Lib.hid hcell
  have HQ2 := Lib.hid hcell2
  have HN := Lib.hid hn
  have HM := Lib.hid hm
  rw [hn, hm] at h2
  rw [hn] at h1 hcap HT ⊢
  rw [hm]
  have hg : decide ((300 : Int) < (n : Int)) = false := by simp; omega
  have hg2 : decide ((m : Int) < (n : Int)) = false := by simp; omega
  have hg3 : decide (m < n) = false := by simp; omega
  have hg4 : ¬ m < n := by omega
  obtain ⟨ps, hps⟩ : ∃ ps, pairsZ bs l = ps := ⟨_, rfl⟩
  have HP := Lib.hid hps
  have HG := Lib.hid (show n ≤ 300 ∧ n ≤ m ∧ n ≤ cap from ⟨h1, h2, hcap⟩)
  clear hS hl hC hcell hcell2 hn hm hps h1 h2 hcap hcap2
  go_enter Tryz.func7, Tryz.ntmps7
  go_wp2_with fail
  refine HL.out.mono ?_
  rintro e w1 ⟨rfl, hb1⟩
  have HB1 := Lib.hid hb1
  clear hb1
  go_wp2_with fail
  refine (HT.out w1 HB1.out).mono ?_
  rintro e w2 ⟨rfl, hb2⟩
  have HB2 := Lib.hid (HB1.out.trans (hb2.mono HB1.out.size))
  have HS := Lib.hid (HS0.out.below HB2.out)
  obtain ⟨W, hW⟩ : ∃ W, strOf (enc l) = W := ⟨_, rfl⟩
  have HW := Lib.hid hW
  rw [hW]
  clear hb2 hW HT
  go_wp2_with fail
  go_loopw [7, 8] (fun a b wr => ∃ (i : Nat) (S : ByteArray), a = .string S ∧ b = .int .i64 (i : Int) ∧ i ≤ n ∧ Hid (Sp ps i S) ∧ Hid (Below w2.heap.size w2 wr)) (fun _ b _ => n - (intOf b).toNat)
  case atStart => exact ⟨0, ⟨#[34]⟩, rfl, rfl, Nat.zero_le _, Sp.start ps, Below.refl _ _⟩
  case round =>
    obtain ⟨i, S, rfl, rfl, hi, HD, HB⟩ := hrel
    by_cases hlt : i < n
    · have hltz : (i : Int) < n := by omega
      have hwi : wrap64 ((i : Int) + 1) = (i : Int) + 1 := by have := HG.out; unfold wrap64; omega
      have hic : (i : Int) + 1 ≤ (cap : Int) := by have := HG.out; omega
      have hic2 : i + 1 ≤ cap := by have := HG.out; omega
      obtain ⟨g, off, rfl, q⟩ := HQ.out (by rw [HN.out]; omega)
      obtain ⟨g2, off2, rfl, q2⟩ := HQ2.out (by rw [HM.out]; omega)
      obtain ⟨x, hx⟩ : ∃ x, l[i]? = some x := ⟨l[i]'(by rw [HN.out]; exact hlt), List.getElem?_eq_getElem _⟩
      obtain ⟨b, hb⟩ : ∃ b, bs[i]? = some b := ⟨bs[i]'(by rw [HM.out]; omega), List.getElem?_eq_getElem _⟩
      have hbw := HB2.out.trans (HB.out.mono HB2.out.size)
      have c0 : wr.cell? ⟨g, off + i, none⟩ = some (.int .i64 x) := by
        have h1 := q i (.int .i64 x) (by rw [List.getElem?_map, hx]; rfl)
        exact (hbw.cell (World.block_lt_of_cell? _ _ h1)).trans h1
      have HTx := Lib.hid (fun (c : Nat) (hc : 1 ≤ c) => RefStrs.ref_text_ok (.slice (some ⟨g, off + i, none⟩) 1 c) [x] wr ⟨_, c, rfl, hc, fun _ => ⟨g, off + i, rfl, fun j hj => by have hj0 : j = 0 := (by simp at hj; omega); rw [hj0]; exact c0⟩⟩ (by simp) (by intro y hy; rw [List.mem_singleton] at hy; rw [hy]; exact HCC.out x (List.mem_of_getElem? hx)))
      have c0f := Lib.hid (fun (W : World) (hW : Below wr.heap.size wr W) => (hW.cell (World.block_lt_of_cell? _ _ c0)).trans c0)
      have c1 : wr.cell? ⟨g2, off2 + i, none⟩ = some (.bool b) := by
        have h1 := q2 i (.bool b) (by rw [List.getElem?_map, hb]; rfl)
        exact (hbw.cell (World.block_lt_of_cell? _ _ h1)).trans h1
      have c1f := Lib.hid (fun (W : World) (hW : Below wr.heap.size wr W) => (hW.cell (World.block_lt_of_cell? _ _ c1)).trans c1)
      have him : (i : Int) < (m : Int) := by have := HG.out; omega
      have him2 : i < m := by have := HG.out; omega
      have hxC := HCC.out x (List.mem_of_getElem? hx)
      have hpi : ps[i]? = some (b, x) := by rw [← HP.out]; unfold pairsZ; rw [List.getElem?_zip_eq_some]; exact ⟨hb, hx⟩
      have HPi := Lib.hid hpi
      have HXC := Lib.hid hxC
      obtain ⟨c, rfl⟩ : ∃ c : Nat, x = (c : Int) := ⟨x.toNat, by have := hxC.1; omega⟩
      obtain ⟨P, hP⟩ : ∃ P, strOf (enc [(c : Int)]) = P := ⟨_, rfl⟩
      have hPs : P.size ≤ 4 := by
        have := enc_len4 [(c : Int)]
        rw [← hP, strOf_size]
        simpa using this
      have hsl := HD.out.len
      have hn1 : ¬ 9223372036854775807 < S.size + P.size := by have := HG.out; omega
      have hcx : c < 9223372036854775808 := by have := hxC.2.1; omega
      have hhx := hex_any c hcx
      obtain ⟨H, hH⟩ : ∃ H, strOf (enc (hexZ c)) = H := ⟨_, rfl⟩
      have hHs : H.size ≤ 24 := by
        have h1 := enc_len4 (hexZ c)
        have h2 := hexZ_len c 5 (by have := hxC.2.1; omega)
        rw [← hH, strOf_size]
        omega
      have hn2 : ¬ 9223372036854775807 < 2 + H.size := by omega
      have hn3 : ¬ 9223372036854775807 < 2 + H.size + 1 := by omega
      have hn4 : ¬ 9223372036854775807 < S.size + (2 + H.size + 1) := by have := HG.out; omega
      rw [hH] at hhx
      have HHx := Lib.hid hhx
      have HEsc := Lib.hid (fun (h : b = true ∨ (c : Int) = 34 ∨ (c : Int) = 92) => HD.out.push hpi hxC (P := ⟨#[92, 120]⟩ ++ H ++ ⟨#[92]⟩) (by
        show _ = enc (litZ b (c : Int))
        unfold litZ
        rw [if_pos h, Int.toNat_natCast, str_add, str_add, ← hH, strOf_list, enc_cons, enc_cons, enc_append, enc_one (by omega) (by omega), enc_one (by omega) (by omega), enc_cons, enc_one (by omega) (by omega)]
        simp [enc]))
      have HPl := Lib.hid (fun (h : ¬ (b = true ∨ (c : Int) = 34 ∨ (c : Int) = 92)) => HD.out.push hpi hxC (P := P) (by
        show _ = enc (litZ b (c : Int))
        unfold litZ
        rw [if_neg h, ← hP, strOf_list]))
      have HTy := Lib.hid (show Calls Tryz.prog 30 #[.slice (some ⟨g, off + i, none⟩) 1 (cap - i)] wr fun e w' => e = .returned (.tuple #[.string P, .int .i64 0]) ∧ Below wr.heap.size wr w' by rw [← hP]; exact HTx.out (cap - i) (by have := HG.out; omega))
      clear hP hPs hsl hhx hH hHs hcx hpi hxC q q2 hx hb hbw c0 c1 HTx hi
      cases b with
      | true =>
        have HDn := Lib.hid (HEsc.out (.inl rfl))
        clear HEsc HPl
        go_wp2_with fail
        refine HTy.out.mono ?_
        rintro e w3 ⟨rfl, hb3⟩
        have c0 := c0f.out w3 hb3
        have c1 := c1f.out w3 hb3
        have HB3 := Lib.hid (HB.out.trans (hb3.mono HB.out.size))
        clear hb3
        go_wp2_with fail
        refine (HHx.out w3).mono ?_
        rintro e w4 ⟨rfl, hb4⟩
        have HB4 := Lib.hid (HB3.out.trans (hb4.mono HB3.out.size))
        clear hb4
        go_wp2_with fail
        go_roundw
        case rel => exact ⟨i + 1, _, rfl, by rw [hwi]; rfl, by omega, HDn, HB4⟩
        case measure =>
          rw [hwi]
          show n - ((i : Int) + 1).toNat < n - (i : Int).toNat
          omega
      | false =>
        by_cases h34 : (c : Int) = 34
        · have HDn := Lib.hid (HEsc.out (.inr (.inl h34)))
          have he : ((c : Int) == 34) = true := beq_iff_eq.2 h34
          clear HEsc HPl h34
          go_wp2_with fail
          refine HTy.out.mono ?_
          rintro e w3 ⟨rfl, hb3⟩
          have c0 := c0f.out w3 hb3
          have c1 := c1f.out w3 hb3
          have HB3 := Lib.hid (HB.out.trans (hb3.mono HB.out.size))
          clear hb3
          go_wp2_with fail
          refine (HHx.out w3).mono ?_
          rintro e w4 ⟨rfl, hb4⟩
          have HB4 := Lib.hid (HB3.out.trans (hb4.mono HB3.out.size))
          clear hb4
          go_wp2_with fail
          go_roundw
          case rel => exact ⟨i + 1, _, rfl, by rw [hwi]; rfl, by omega, HDn, HB4⟩
          case measure =>
            rw [hwi]
            show n - ((i : Int) + 1).toNat < n - (i : Int).toNat
            omega
        have he : ((c : Int) == 34) = false := by simpa using h34
        by_cases h92 : (c : Int) = 92
        · have HDn := Lib.hid (HEsc.out (.inr (.inr h92)))
          have he2 : ((c : Int) == 92) = true := beq_iff_eq.2 h92
          clear HEsc HPl h34 h92
          go_wp2_with fail
          refine HTy.out.mono ?_
          rintro e w3 ⟨rfl, hb3⟩
          have c0 := c0f.out w3 hb3
          have c1 := c1f.out w3 hb3
          have HB3 := Lib.hid (HB.out.trans (hb3.mono HB.out.size))
          clear hb3
          go_wp2_with fail
          refine (HHx.out w3).mono ?_
          rintro e w4 ⟨rfl, hb4⟩
          have HB4 := Lib.hid (HB3.out.trans (hb4.mono HB3.out.size))
          clear hb4
          go_wp2_with fail
          go_roundw
          case rel => exact ⟨i + 1, _, rfl, by rw [hwi]; rfl, by omega, HDn, HB4⟩
          case measure =>
            rw [hwi]
            show n - ((i : Int) + 1).toNat < n - (i : Int).toNat
            omega
        have he2 : ((c : Int) == 92) = false := by simpa using h92
        have HDn := Lib.hid (HPl.out (by simp [h34, h92]))
        clear HEsc HPl h34 h92
        go_wp2_with fail
        refine HTy.out.mono ?_
        rintro e w3 ⟨rfl, hb3⟩
        have c0 := c0f.out w3 hb3
        have c1 := c1f.out w3 hb3
        have HB3 := Lib.hid (HB.out.trans (hb3.mono HB.out.size))
        clear hb3
        go_wp2_with fail
        go_roundw
        case rel => exact ⟨i + 1, _, rfl, by rw [hwi]; rfl, by omega, HDn, HB3⟩
        case measure =>
          rw [hwi]
          show n - ((i : Int) + 1).toNat < n - (i : Int).toNat
          omega
    · have hin : i = n := by omega
      subst hin
      have hltz : ¬ (i : Int) < (i : Int) := by omega
      have hpl : ps.length = i := by
        rw [← HP.out]
        unfold pairsZ
        rw [List.length_zip, HN.out, HM.out]
        have := HG.out
        omega
      have hpc : ∀ p ∈ ps, isC p.2 := by
        intro p hp
        rw [← HP.out] at hp
        exact HCC.out _ (List.of_mem_zip hp).2
      have hps2 : ps.map Prod.snd = l := by
        rw [← HP.out]
        unfold pairsZ
        exact List.map_snd_zip (by rw [HN.out, HM.out]; exact HG.out.2.1)
      have hSb := HD.out.s
      rw [show ps.take i = ps by rw [← hpl]; exact List.take_length] at hSb
      have hT := txtZ_len ps hpc
      have hTc := txtZ_isC ps hpc
      have hgo := HG.out
      have h0 : 0 < t0.syms.length := by rw [t0_length]; omega
      have c34 : isC 34 := ⟨by omega, by omega, .inl (by omega)⟩
      have hr1 := read_txt hpc (by omega) t0
      have hr2 := read_open hpc (obT l) t0
      rw [hps2] at hr1
      obtain ⟨E, hE⟩ : ∃ E : Int, ((txtZ ps).length : Int) + 2 = E := ⟨_, rfl⟩
      obtain ⟨E1, hE1⟩ : ∃ E1 : Int, ((txtZ ps).length : Int) + 1 = E1 := ⟨_, rfl⟩
      rw [hE] at hr1
      rw [hE1] at hr2
      have R1 := Lib.hid (RStep.enc (u := S ++ ⟨#[34]⟩) (L := 34 :: (txtZ ps ++ [34])) (by rw [str_add, hSb, enc_cons, enc_cons, enc_append, List.append_assoc]; rfl) (by
        intro y hy
        simp only [List.mem_cons, List.mem_append, List.not_mem_nil, or_false] at hy
        rcases hy with rfl | hy | rfl
        · exact c34
        · exact hTc y hy
        · exact c34) (by simp; omega) h0 hr1 (by decide))
      have R2 := Lib.hid (RStep.enc (u := S) (L := 34 :: txtZ ps) hSb (by
        intro y hy
        rcases List.mem_cons.1 hy with rfl | hy
        · exact c34
        · exact hTc y hy) (by simp; omega) h0 hr2 (by decide))
      have hLn : ((lenL S.data.toList : Nat) : Int) = E1 := by
        have hcc : ∀ y ∈ 34 :: txtZ ps, isC y := by
          intro y hy
          rcases List.mem_cons.1 hy with rfl | hy
          · exact c34
          · exact hTc y hy
        rw [hSb]
        unfold lenL
        rw [if_pos (valid_enc_all _ hcc), runes_enc_all _ hcc, List.length_cons, ← hE1]
        omega
      have hssz := HD.out.len
      have HRl := Lib.hid (fun w => RefStrs.ref_len S w (by omega))
      rw [hLn] at HRl
      have hn1 : ¬ 9223372036854775807 < S.size + 1 := by omega
      have hw1 : wrap64 (E1 + 1) = E := by unfold wrap64; omega
      have hw2 : wrap64 (E - 1) = E1 := by unfold wrap64; omega
      have HSb := Lib.hid (HS.out.below HB.out)
      have HTo := Lib.hid (show Elem.textOfO (obT l) (3, 0) = (W, 0) by rw [← HW.out]; rfl)
      clear hpl hpc hps2 hSb hT hTc h0 c34 hr1 hr2 hE hE1 hLn hssz hi hlt hgo
      go_wp2_with fail
      refine (FStep.of (lim := 1) (by omega) (by omega) wr HSb.out.tabs).mono ?_
      rintro e w3 ⟨tp, rfl, hN⟩
      have HNs := Lib.hid hN
      clear hN
      go_wp2_with fail
      refine (R1.out _ _ tp _ HSb.out HNs.out).mono ?_
      rintro e u1 ⟨rfl, hn⟩
      have hn2 := hn.two 3 0 0 0
      clear HNs hn
      have HN0 := Lib.hid hn2
      clear hn2
      go_wp2_with fail
      obtain ⟨v1, hv1⟩ : ∃ v, (u1.alloc (wob 3 0)).alloc (fob 0 0) = v := ⟨_, rfl⟩
      have hn2 := HN0.out
      rw [hv1] at hn2 ⊢
      have HNs := Lib.hid hn2
      clear hn2 HN0 hv1
      refine (R2.out _ _ tp _ HSb.out HNs.out).mono ?_
      rintro e u2 ⟨rfl, hn⟩
      have hn2 := hn.two 0 0 5 E1
      obtain ⟨f0, f1, _, _⟩ := (hn2.box (wbx u1.heap.size 3 0) (by simp)).two
      clear HNs hn
      have HN0 := Lib.hid hn2
      clear hn2
      go_wp2_with fail
      obtain ⟨v2, hv2⟩ : ∃ v, (u2.alloc (wob 0 0)).alloc (fob 5 E1) = v := ⟨_, rfl⟩
      have hn2 := HN0.out
      rw [hv2] at hn2 ⊢
      have HNs := Lib.hid hn2
      have hto := hn2.textOf (3, 0) v2 (Below.refl _ _)
      rw [HTo.out] at hto
      clear hn2 HN0 hv2 f0 f1
      refine hto.mono ?_
      clear hto
      rintro e w6 ⟨rfl, hb6⟩
      have hn6 := HNs.out.later hb6
      obtain ⟨f0, f1, _, _⟩ := (hn6.box (fbx (u1.heap.size + 1) 0 0) (by simp)).two
      have HN6 := Lib.hid hn6
      clear hn6 hb6 HNs
      go_wp2_with fail
      refine (HRl.out w6).mono ?_
      rintro e w7 ⟨rfl, hb7⟩
      have hn7 := HN6.out.later hb7
      obtain ⟨g0, g1, _, _⟩ := (hn7.box (fbx (u2.heap.size + 1) 5 E1) (by simp)).two
      have HX := Lib.hid (HB2.out.trans ((HB.out.trans (hn7.below.mono HB.out.size)).mono HB2.out.size))
      clear hn7 hb7 f0 f1
      go_wp2_with fail
      go_ret
      exact ⟨rfl, HX.out⟩
/-- The statement's walk. -/
theorem strs_walk (v : Value) (l : List Int) (u : Value) (bs : List Bool) (w : World) (hv : SlR w v l.length (l.map (Value.int .i64))) (_hm : l.length ≤ 9223372036854775807) (hu : SlR w u bs.length (bs.map Value.bool)) (_hm2 : bs.length ≤ 9223372036854775807) (hS : Sys w) :
    Calls Tryz.prog 7 #[v, u] w fun e w' => e = .returned (.bool true) ∧ Below w.heap.size w w' := by
  by_cases h : 300 < l.length ∨ bs.length < l.length ∨ ¬ ∀ c ∈ l, isC c
  · exact strs_light v u l bs w hv hu hS h
  · simp only [not_or, Classical.not_not] at h
    exact strs_main v u l bs w hv hu hS (by omega) (by omega) h.2.2
end Go.Proofs.YtlibdhnlmekmhaaGreatDoor.Rd
