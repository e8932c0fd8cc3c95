/- The contracts of the reference's tail and point. -/
import Derived.BigQuiet
import Derived.Deep.QuietTactic
import Derived.Test.YtlibdhnlmekmhaaGreatDoorMh07
import Derived.Test.YtlibdhnlmekmhaaGreatDoorMh08
namespace Go.Proofs.YtlibdhnlmekmhaaGreatDoor.RefStrs
open Go.RowKit Go.Shelf Go.Lib
open Go.Proofs.YtlibdhnlmekmhaaGreatDoor.Utf Go.Proofs.YtlibdhnlmekmhaaGreatDoor.Strs Go.Proofs.YtlibdhnlmekmhaaGreatDoor.Cuts Go.Proofs.YtlibdhnlmekmhaaGreatDoor.RefChars Go.Proofs.YtlibdhnlmekmhaaGreatDoor.Chars

/-- The number of the byte at an index, 0 behind the end. -/
def byt (s : ByteArray) (i : Nat) : Nat := (s.data.toList.getD i 0).toNat
theorem byt_lt (s : ByteArray) (i : Nat) : byt s i < 256 := UInt8.toNat_lt _
theorem byt_get (s : ByteArray) (i : Nat) (h : i < s.size) : (s[i]'h).toNat = byt s i := by
  unfold byt
  have h2 : i < s.data.toList.length := by simp; exact h
  rw [List.getD_eq_getElem?_getD, List.getElem?_eq_getElem h2]
  rfl
/-- Whether the byte at an index is a continuation byte. -/
def tailB (s : ByteArray) (i : Nat) : Bool := decide (i < s.size) && (decide (128 ≤ byt s i) && decide (byt s i < 192))

set_option maxHeartbeats 400000 in
theorem tail_any (s : ByteArray) (i : Nat) (w : World) :
    Calls Tryz.prog 180 #[.string s, .int .i64 i] w fun e w' => e = .returned (.bool (tailB s i)) ∧ w = w' := by
  by_cases h : i < s.size
  · have hz : (i : Int) < s.size := by omega
    have hb := byt_get s i h
    have h2 := byt_lt s i
    unfold tailB
    generalize byt s i = b at *
    rw [decide_eq_true h, Bool.true_and]
    by_cases h3 : 128 ≤ b
    · rw [decide_eq_true h3, Bool.true_and]
      have h3z : (128 : Int) ≤ b := by omega
      by_cases h4 : b < 192
      · rw [decide_eq_true h4]
        have h4z : (b : Int) < 192 := by omega
        go_enter Tryz.func180, Tryz.ntmps180
        go_wp2
        go_ret
        exact ⟨rfl, rfl⟩
      · rw [decide_eq_false h4]
        have h4z : ¬ (b : Int) < 192 := by omega
        go_enter Tryz.func180, Tryz.ntmps180
        go_wp2
        go_ret
        exact ⟨rfl, rfl⟩
    · rw [decide_eq_false h3, Bool.false_and]
      have h3z : ¬ (128 : Int) ≤ b := by omega
      go_enter Tryz.func180, Tryz.ntmps180
      go_wp2
      go_ret
      exact ⟨rfl, rfl⟩
  · have hz : ¬ (i : Int) < s.size := by omega
    unfold tailB
    rw [decide_eq_false h, Bool.false_and]
    go_enter Tryz.func180, Tryz.ntmps180
    go_wp2
    go_ret
    exact ⟨rfl, rfl⟩

theorem tailB_yes (s : ByteArray) (i : Nat) (h : tailB s i = true) : i < s.size ∧ 128 ≤ byt s i ∧ byt s i < 192 := by simpa [tailB] using h
theorem tailB_no (s : ByteArray) (i : Nat) (h : tailB s i = false) : i < s.size → byt s i / 64 ≠ 2 := by
  intro hi he
  have : tailB s i = true := by simp [tailB, hi]; omega
  rw [this] at h
  cases h

/-- What the reference's point returns. -/
def pt (s : ByteArray) : Int × Int := if (decodeL s.data.toList).1 = 65533 ∧ (decodeL s.data.toList).2 = 1 then (0, 0) else ((decodeL s.data.toList).1, (decodeL s.data.toList).2)
theorem pt_N (s : ByteArray) : decodeL s.data.toList = decodeN s.size (byt s 0) (byt s 1) (byt s 2) (byt s 3) := by
  rw [decodeL_N, size_list]
  rfl
theorem pt_ok (s : ByteArray) (c k : Nat) (h : decodeN s.size (byt s 0) (byt s 1) (byt s 2) (byt s 3) = (c, k)) (hk : c ≠ 65533 ∨ k ≠ 1) : pt s = ((c : Int), (k : Int)) := by
  unfold pt
  rw [pt_N, h, if_neg (by simp only; omega)]
theorem pt_bad (s : ByteArray) (h : decodeN s.size (byt s 0) (byt s 1) (byt s 2) (byt s 3) = (65533, 1)) : pt s = (0, 0) := by
  unfold pt
  rw [pt_N, h, if_pos ⟨rfl, rfl⟩]

set_option maxRecDepth 100000 in
theorem dn2 (n a b1 b2 b3 : Nat) (h0 : 194 ≤ a) (h1 : a < 224) (hn : 1 < n) (hb : 128 ≤ b1 ∧ b1 < 192) : decodeN n a b1 b2 b3 = ((a - 192) * 64 + (b1 - 128), 2) := by
  unfold decodeN
  rw [if_neg (by omega), if_pos (by omega), if_pos (by omega)]
  congr 1
  omega
theorem dn2_bad (n a b1 b2 b3 : Nat) (h0 : 194 ≤ a) (h1 : a < 224) (hn : 1 < n → b1 / 64 ≠ 2) : decodeN n a b1 b2 b3 = (65533, 1) :=
  decodeN_alone _ _ _ _ _ (by omega) (by omega)
set_option maxRecDepth 100000 in
theorem dn3 (n a b1 b2 b3 : Nat) (h0 : 224 ≤ a) (h1 : a < 240) (hn : 2 < n) (hb : 128 ≤ b1 ∧ b1 < 192) (hc : 128 ≤ b2 ∧ b2 < 192) (c : Nat) (hcc : c = ((a - 224) * 64 + (b1 - 128)) * 64 + (b2 - 128)) :
    decodeN n a b1 b2 b3 = if 2048 ≤ c ∧ (c < 55296 ∨ 57344 ≤ c) then (c, 3) else (65533, 1) := by
  unfold decodeN
  rw [if_neg (by omega), if_neg (by omega), if_pos (by omega)]
  have e : a % 16 * 4096 + b1 % 64 * 64 + b2 % 64 = c := by omega
  rw [e]
  by_cases h : 2048 ≤ c ∧ (c < 55296 ∨ 57344 ≤ c)
  · rw [if_pos h, if_pos (by omega)]
  · rw [if_neg h, if_neg (by omega)]
set_option maxRecDepth 100000 in
theorem dn3_bad (n a b1 b2 b3 : Nat) (h0 : 224 ≤ a) (h1 : a < 240) (hn : ¬ (2 < n ∧ b1 / 64 = 2 ∧ b2 / 64 = 2)) : decodeN n a b1 b2 b3 = (65533, 1) := by
  unfold decodeN
  rw [if_neg (by omega), if_neg (by omega), if_neg (by omega), if_neg (by omega)]
set_option maxRecDepth 100000 in
theorem dn4 (n a b1 b2 b3 : Nat) (h0 : 240 ≤ a) (h1 : a < 245) (hn : 3 < n) (hb : 128 ≤ b1 ∧ b1 < 192) (hc : 128 ≤ b2 ∧ b2 < 192) (hd : 128 ≤ b3 ∧ b3 < 192) (c : Nat) (hcc : c = (((a - 240) * 64 + (b1 - 128)) * 64 + (b2 - 128)) * 64 + (b3 - 128)) :
    decodeN n a b1 b2 b3 = if 65536 ≤ c ∧ c ≤ 1114111 then (c, 4) else (65533, 1) := by
  unfold decodeN
  rw [if_neg (by omega), if_neg (by omega), if_neg (by omega), if_pos (by omega)]
  have e : a % 8 * 262144 + b1 % 64 * 4096 + b2 % 64 * 64 + b3 % 64 = c := by omega
  rw [e]
  by_cases h : 65536 ≤ c ∧ c ≤ 1114111
  · rw [if_pos h, if_pos (by omega)]
  · rw [if_neg h, if_neg (by omega)]
set_option maxRecDepth 100000 in
theorem dn4_bad (n a b1 b2 b3 : Nat) (h0 : 240 ≤ a) (h1 : a < 245) (hn : ¬ (3 < n ∧ b1 / 64 = 2 ∧ b2 / 64 = 2 ∧ b3 / 64 = 2)) : decodeN n a b1 b2 b3 = (65533, 1) := by
  unfold decodeN
  rw [if_neg (by omega), if_neg (by omega), if_neg (by omega), if_neg (by omega)]
theorem ret2 {a b c d : Int} (h : a = b) (h' : c = d) : Ending.returned (.tuple #[.int .i64 a, .int .i64 c]) = Ending.returned (.tuple #[.int .i64 b, .int .i64 d]) := by rw [h, h']

set_option maxRecDepth 100000 in
set_option maxHeartbeats 2000000 in
theorem point_any (s : ByteArray) (w : World) (hs : s.size < 1000000) (h0 : 0 < s.size) :
    Calls Tryz.prog 134 #[.string s] w fun e w' => e = .returned (.tuple #[.int .i64 (pt s).1, .int .i64 (pt s).2]) ∧ ∃ q, w' = w.drewN q := by
  have T1 := Lib.hid (fun W => tail_any s 1 W)
  have T2 := Lib.hid (fun W => tail_any s 2 W)
  have T3 := Lib.hid (fun W => tail_any s 3 W)
  have y1 := tailB_yes s 1
  have y2 := tailB_yes s 2
  have y3 := tailB_yes s 3
  have n1 := tailB_no s 1
  have n2 := tailB_no s 2
  have n3 := tailB_no s 3
  have g0 := byt_get s 0 h0
  have g1 := byt_get s 1
  have g2 := byt_get s 2
  have g3 := byt_get s 3
  have l0 := byt_lt s 0
  have po := pt_ok s
  have pb := pt_bad s
  have h0z : (0 : Int) < s.size := by omega
  generalize byt s 0 = a at *
  generalize byt s 1 = b1 at *
  generalize byt s 2 = b2 at *
  generalize byt s 3 = b3 at *
  generalize pt s = p at *
  generalize tailB s 1 = t1 at *
  generalize tailB s 2 = t2 at *
  generalize tailB s 3 = t3 at *
  by_cases a1 : a < 128
  · have hp := po a 1 (decodeN_ascii _ _ _ _ _ a1) (.inl (by omega))
    subst hp
    have a1z : (a : Int) < 128 := by omega
    clear T1 T2 T3 y1 y2 y3 n1 n2 n3 g1 g2 g3 po pb
    go_enter Tryz.func134, Tryz.ntmps134
    go_wp2
    go_ret2
    exact ⟨rfl, 0, rfl⟩
  · have a1z : ¬ (a : Int) < 128 := by omega
    by_cases a2 : a < 194 ∨ 245 ≤ a
    · have hp := pb (decodeN_bad _ _ _ _ _ (by omega))
      rcases a2 with a2 | a2
      · subst hp
        have a2z : (a : Int) < 194 := by omega
        clear T1 T2 T3 y1 y2 y3 n1 n2 n3 g1 g2 g3 po pb
        go_enter Tryz.func134, Tryz.ntmps134
        go_wp2_with (fail)
        go_ret2
        exact ⟨rfl, 0, rfl⟩
      · subst hp
        have a2z : (245 : Int) ≤ a := by omega
        have d1 : decide ((a : Int) < 194) = false := by simp; omega
        have d2 : decide ((244 : Int) < (a : Int)) = true := by simp; omega
        have d3 : ¬ a < 194 := by omega
        have d4 : ¬ (a : Int) < 194 := by omega
        have d5 : decide ((a : Int) < 128) = false := by simp; omega
        clear T1 T2 T3 y1 y2 y3 n1 n2 n3 g1 g2 g3 po pb
        go_enter Tryz.func134, Tryz.ntmps134
        go_wp2_with (fail)
        go_ret2
        exact ⟨rfl, 0, rfl⟩
    · have a2z : (194 : Int) ≤ a := by omega
      have a2y : (a : Int) < 245 := by omega
      have d1 : decide ((a : Int) < 194) = false := by simp; omega
      have d2 : decide ((244 : Int) < (a : Int)) = false := by simp; omega
      have d3 : ¬ a < 194 := by omega
      have d4 : ¬ 244 < a := by omega
      by_cases a3 : a < 224
      · have a3z : (a : Int) < 224 := by omega
        cases t1
        · have hp := pb (dn2_bad _ _ _ _ _ (by omega) a3 (n1 rfl))
          subst hp
          clear T2 T3 y1 y2 y3 n1 n2 n3 g1 g2 g3 po pb a2
          go_enter Tryz.func134, Tryz.ntmps134
          go_wp2_with (fail)
          refine (T1.out _).mono ?_
          rintro e w' ⟨rfl, rfl⟩
          go_wp2_with (fail)
          go_ret2
          exact ⟨rfl, 0, rfl⟩
        · obtain ⟨q1, q2, q3⟩ := y1 rfl
          have hp := po _ _ (dn2 _ _ _ _ _ (by omega) a3 q1 ⟨q2, q3⟩) (.inr (by omega))
          have g1' := g1 q1
          have q1z : (1 : Int) < s.size := by omega
          have q2z : (128 : Int) ≤ b1 := by omega
          have q3z : (b1 : Int) < 192 := by omega
          have ea : ((a - 192) * 64 + (b1 - 128) : Nat) = (((a : Int) - 192) * 64 + b1) - 128 := by omega
          subst hp
          have Ea := Lib.hid ea
          clear T2 T3 y1 y2 y3 n1 n2 n3 g1 g2 g3 po pb a2 ea
          go_enter Tryz.func134, Tryz.ntmps134
          go_wp2_with (fail)
          refine (T1.out _).mono ?_
          rintro e w' ⟨rfl, rfl⟩
          go_wp2_with (fail)
          go_ret2
          exact ⟨ret2 Ea.out.symm rfl, 0, rfl⟩
      · have a3z : ¬ (a : Int) < 224 := by omega
        have a3y : (224 : Int) ≤ a := by omega
        by_cases a4 : a < 240
        · have a4z : (a : Int) < 240 := by omega
          cases t1
          · have hp := pb (dn3_bad _ _ _ _ _ (by omega) a4 (fun h => n1 rfl (by omega) h.2.1))
            subst hp
            clear T2 T3 y1 y2 y3 n1 n2 n3 g1 g2 g3 po pb a2
            go_enter Tryz.func134, Tryz.ntmps134
            go_wp2_with (fail)
            refine (T1.out _).mono ?_
            rintro e w' ⟨rfl, rfl⟩
            go_wp2_with (fail)
            go_ret2
            exact ⟨rfl, 0, rfl⟩
          · obtain ⟨q1, q2, q3⟩ := y1 rfl
            cases t2
            · have hp := pb (dn3_bad _ _ _ _ _ (by omega) a4 (fun h => n2 rfl (by omega) h.2.2))
              subst hp
              clear T3 y1 y2 y3 n1 n2 n3 g1 g2 g3 po pb a2
              go_enter Tryz.func134, Tryz.ntmps134
              go_wp2_with (fail)
              refine (T1.out _).mono ?_
              rintro e w' ⟨rfl, rfl⟩
              go_wp2_with (fail)
              refine (T2.out _).mono ?_
              rintro e w' ⟨rfl, rfl⟩
              go_wp2_with (fail)
              go_ret2
              exact ⟨rfl, 0, rfl⟩
            · obtain ⟨r1, r2, r3⟩ := y2 rfl
              have hdn := fun c hc => dn3 s.size a b1 b2 b3 (by omega) a4 r1 ⟨q2, q3⟩ ⟨r2, r3⟩ c hc
              obtain ⟨c, hc⟩ : ∃ c, c = ((a - 224) * 64 + (b1 - 128)) * 64 + (b2 - 128) := ⟨_, rfl⟩
              have hd := hdn c hc
              have ea : (((a : Int) - 224) * 64 + b1 - 128) * 64 + b2 - 128 = (c : Int) := by omega
              have g1' := g1 q1
              have g2' := g2 r1
              have q1z : (1 : Int) < s.size := by omega
              have r1z : (2 : Int) < s.size := by omega
              have q2z : (128 : Int) ≤ b1 := by omega
              have q3z : (b1 : Int) < 192 := by omega
              have r2z : (128 : Int) ≤ b2 := by omega
              have r3z : (b2 : Int) < 192 := by omega
              have HI := Lib.hid (fun W => ref_is_any ((((a : Int) - 224) * 64 + b1 - 128) * 64 + b2 - 128) W)
              have hiz := isZ_iff (c : Int)
              rw [ea] at HI
              rw [← ea] at HI
              by_cases c1 : 2048 ≤ c
              · by_cases c2 : c < 55296 ∨ 57344 ≤ c
                · rw [if_pos ⟨c1, c2⟩] at hd
                  have hp := po c 3 hd (.inr (by omega))
                  have hi : isZ ((((a : Int) - 224) * 64 + b1 - 128) * 64 + b2 - 128) = true := by rw [ea, hiz]; omega
                  have c1z : (2048 : Int) ≤ (((a : Int) - 224) * 64 + b1 - 128) * 64 + b2 - 128 := by omega
                  rw [hi] at HI
                  subst hp
                  have Ea := Lib.hid ea
                  clear T3 y1 y2 y3 n1 n2 n3 g1 g2 g3 po pb a2 hd hdn hc hiz ea hi c2
                  go_enter Tryz.func134, Tryz.ntmps134
                  go_wp2_with (fail)
                  refine (T1.out _).mono ?_
                  rintro e w' ⟨rfl, rfl⟩
                  go_wp2_with (fail)
                  refine (T2.out _).mono ?_
                  rintro e w' ⟨rfl, rfl⟩
                  go_wp2_with (fail)
                  go_quiet (fail)
                  go_wp2_with (fail)
                  refine (HI.out _).mono ?_
                  rintro e w' ⟨rfl, rfl⟩
                  go_wp2_with (fail)
                  go_ret2
                  exact ⟨ret2 Ea.out rfl, _, rfl⟩
                · rw [if_neg (fun h => c2 h.2)] at hd
                  have hp := pb hd
                  have hi : isZ ((((a : Int) - 224) * 64 + b1 - 128) * 64 + b2 - 128) = false := by
                    rw [Bool.eq_false_iff]
                    intro h
                    rw [ea, hiz] at h
                    omega
                  have c1z : (2048 : Int) ≤ (((a : Int) - 224) * 64 + b1 - 128) * 64 + b2 - 128 := by omega
                  rw [hi] at HI
                  subst hp
                  clear T3 y1 y2 y3 n1 n2 n3 g1 g2 g3 po pb a2 hd hdn hc hiz ea hi c2
                  go_enter Tryz.func134, Tryz.ntmps134
                  go_wp2_with (fail)
                  refine (T1.out _).mono ?_
                  rintro e w' ⟨rfl, rfl⟩
                  go_wp2_with (fail)
                  refine (T2.out _).mono ?_
                  rintro e w' ⟨rfl, rfl⟩
                  go_wp2_with (fail)
                  go_quiet (fail)
                  go_wp2_with (fail)
                  refine (HI.out _).mono ?_
                  rintro e w' ⟨rfl, rfl⟩
                  go_wp2_with (fail)
                  go_ret2
                  exact ⟨rfl, _, rfl⟩
              · rw [if_neg (fun h => c1 h.1)] at hd
                have hp := pb hd
                have c1z : ¬ (2048 : Int) ≤ (((a : Int) - 224) * 64 + b1 - 128) * 64 + b2 - 128 := by omega
                subst hp
                clear T3 y1 y2 y3 n1 n2 n3 g1 g2 g3 po pb a2 hd hdn hc hiz ea HI
                go_enter Tryz.func134, Tryz.ntmps134
                go_wp2_with (fail)
                refine (T1.out _).mono ?_
                rintro e w' ⟨rfl, rfl⟩
                go_wp2_with (fail)
                refine (T2.out _).mono ?_
                rintro e w' ⟨rfl, rfl⟩
                go_wp2_with (fail)
                go_quiet (fail)
                go_wp2_with (fail)
                go_ret2
                exact ⟨rfl, _, rfl⟩
        · have a4z : ¬ (a : Int) < 240 := by omega
          have a4y : (240 : Int) ≤ a := by omega
          cases t1
          · have hp := pb (dn4_bad _ _ _ _ _ (by omega) (by omega) (fun h => n1 rfl (by omega) h.2.1))
            subst hp
            clear T2 T3 y1 y2 y3 n1 n2 n3 g1 g2 g3 po pb a2
            go_enter Tryz.func134, Tryz.ntmps134
            go_wp2_with (fail)
            refine (T1.out _).mono ?_
            rintro e w' ⟨rfl, rfl⟩
            go_wp2_with (fail)
            go_ret2
            exact ⟨rfl, 0, rfl⟩
          · obtain ⟨q1, q2, q3⟩ := y1 rfl
            cases t2
            · have hp := pb (dn4_bad _ _ _ _ _ (by omega) (by omega) (fun h => n2 rfl (by omega) h.2.2.1))
              subst hp
              clear T3 y1 y2 y3 n1 n2 n3 g1 g2 g3 po pb a2
              go_enter Tryz.func134, Tryz.ntmps134
              go_wp2_with (fail)
              refine (T1.out _).mono ?_
              rintro e w' ⟨rfl, rfl⟩
              go_wp2_with (fail)
              refine (T2.out _).mono ?_
              rintro e w' ⟨rfl, rfl⟩
              go_wp2_with (fail)
              go_ret2
              exact ⟨rfl, 0, rfl⟩
            · obtain ⟨r1, r2, r3⟩ := y2 rfl
              cases t3
              · have hp := pb (dn4_bad _ _ _ _ _ (by omega) (by omega) (fun h => n3 rfl (by omega) h.2.2.2))
                subst hp
                clear y1 y2 y3 n1 n2 n3 g1 g2 g3 po pb a2
                go_enter Tryz.func134, Tryz.ntmps134
                go_wp2_with (fail)
                refine (T1.out _).mono ?_
                rintro e w' ⟨rfl, rfl⟩
                go_wp2_with (fail)
                refine (T2.out _).mono ?_
                rintro e w' ⟨rfl, rfl⟩
                go_wp2_with (fail)
                refine (T3.out _).mono ?_
                rintro e w' ⟨rfl, rfl⟩
                go_wp2_with (fail)
                go_ret2
                exact ⟨rfl, 0, rfl⟩
              · obtain ⟨s1, s2, s3⟩ := y3 rfl
                have hdn := fun c hc => dn4 s.size a b1 b2 b3 (by omega) (by omega) s1 ⟨q2, q3⟩ ⟨r2, r3⟩ ⟨s2, s3⟩ c hc
                obtain ⟨c, hc⟩ : ∃ c, c = (((a - 240) * 64 + (b1 - 128)) * 64 + (b2 - 128)) * 64 + (b3 - 128) := ⟨_, rfl⟩
                have hd := hdn c hc
                have ea : ((((a : Int) - 240) * 64 + b1 - 128) * 64 + b2 - 128) * 64 + b3 - 128 = (c : Int) := by omega
                have g1' := g1 q1
                have g2' := g2 r1
                have g3' := g3 s1
                have q1z : (1 : Int) < s.size := by omega
                have r1z : (2 : Int) < s.size := by omega
                have s1z : (3 : Int) < s.size := by omega
                have q2z : (128 : Int) ≤ b1 := by omega
                have q3z : (b1 : Int) < 192 := by omega
                have r2z : (128 : Int) ≤ b2 := by omega
                have r3z : (b2 : Int) < 192 := by omega
                have s2z : (128 : Int) ≤ b3 := by omega
                have s3z : (b3 : Int) < 192 := by omega
                have HI := Lib.hid (fun W => ref_is_any (((((a : Int) - 240) * 64 + b1 - 128) * 64 + b2 - 128) * 64 + b3 - 128) W)
                have hiz := isZ_iff (c : Int)
                by_cases c1 : 65536 ≤ c
                · by_cases c2 : c ≤ 1114111
                  · rw [if_pos ⟨c1, c2⟩] at hd
                    have hp := po c 4 hd (.inr (by omega))
                    have hi : isZ (((((a : Int) - 240) * 64 + b1 - 128) * 64 + b2 - 128) * 64 + b3 - 128) = true := by rw [ea, hiz]; omega
                    have c1z : (65536 : Int) ≤ ((((a : Int) - 240) * 64 + b1 - 128) * 64 + b2 - 128) * 64 + b3 - 128 := by omega
                    rw [hi] at HI
                    subst hp
                    have Ea := Lib.hid ea
                    clear y1 y2 y3 n1 n2 n3 g1 g2 g3 po pb a2 hd hdn hc hiz ea hi c2
                    go_enter Tryz.func134, Tryz.ntmps134
                    go_wp2_with (fail)
                    refine (T1.out _).mono ?_
                    rintro e w' ⟨rfl, rfl⟩
                    go_wp2_with (fail)
                    refine (T2.out _).mono ?_
                    rintro e w' ⟨rfl, rfl⟩
                    go_wp2_with (fail)
                    refine (T3.out _).mono ?_
                    rintro e w' ⟨rfl, rfl⟩
                    go_wp2_with (fail)
                    go_quiet (fail)
                    go_wp2_with (fail)
                    refine (HI.out _).mono ?_
                    rintro e w' ⟨rfl, rfl⟩
                    go_wp2_with (fail)
                    go_ret2
                    exact ⟨ret2 Ea.out rfl, _, rfl⟩
                  · rw [if_neg (fun h => c2 h.2)] at hd
                    have hp := pb hd
                    have hi : isZ (((((a : Int) - 240) * 64 + b1 - 128) * 64 + b2 - 128) * 64 + b3 - 128) = false := by
                      rw [Bool.eq_false_iff]
                      intro h
                      rw [ea, hiz] at h
                      omega
                    have c1z : (65536 : Int) ≤ ((((a : Int) - 240) * 64 + b1 - 128) * 64 + b2 - 128) * 64 + b3 - 128 := by omega
                    rw [hi] at HI
                    subst hp
                    clear y1 y2 y3 n1 n2 n3 g1 g2 g3 po pb a2 hd hdn hc hiz ea hi c2
                    go_enter Tryz.func134, Tryz.ntmps134
                    go_wp2_with (fail)
                    refine (T1.out _).mono ?_
                    rintro e w' ⟨rfl, rfl⟩
                    go_wp2_with (fail)
                    refine (T2.out _).mono ?_
                    rintro e w' ⟨rfl, rfl⟩
                    go_wp2_with (fail)
                    refine (T3.out _).mono ?_
                    rintro e w' ⟨rfl, rfl⟩
                    go_wp2_with (fail)
                    go_quiet (fail)
                    go_wp2_with (fail)
                    refine (HI.out _).mono ?_
                    rintro e w' ⟨rfl, rfl⟩
                    go_wp2_with (fail)
                    go_ret2
                    exact ⟨rfl, _, rfl⟩
                · rw [if_neg (fun h => c1 h.1)] at hd
                  have hp := pb hd
                  have c1z : ¬ (65536 : Int) ≤ ((((a : Int) - 240) * 64 + b1 - 128) * 64 + b2 - 128) * 64 + b3 - 128 := by omega
                  subst hp
                  clear y1 y2 y3 n1 n2 n3 g1 g2 g3 po pb a2 hd hdn hc hiz ea HI
                  go_enter Tryz.func134, Tryz.ntmps134
                  go_wp2_with (fail)
                  refine (T1.out _).mono ?_
                  rintro e w' ⟨rfl, rfl⟩
                  go_wp2_with (fail)
                  refine (T2.out _).mono ?_
                  rintro e w' ⟨rfl, rfl⟩
                  go_wp2_with (fail)
                  refine (T3.out _).mono ?_
                  rintro e w' ⟨rfl, rfl⟩
                  go_wp2_with (fail)
                  go_quiet (fail)
                  go_wp2_with (fail)
                  go_ret2
                  exact ⟨rfl, _, rfl⟩
end Go.Proofs.YtlibdhnlmekmhaaGreatDoor.RefStrs
