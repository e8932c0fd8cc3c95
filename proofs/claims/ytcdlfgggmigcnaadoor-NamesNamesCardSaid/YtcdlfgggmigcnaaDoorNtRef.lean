/- The contracts of the reference's Valid and Len, with what they call: Is, tail, point, List. -/
import Derived.Test.YtcdlfgggmigcnaaDoorRunes
import Derived.BigQuiet
import Derived.Deep.QuietTactic
import Derived.Deep.LoopGhost
import Derived.LoopTactic
import Derived.OwnWalk
import Derived.Laws.AppendOwn
namespace Go.Proofs.YtcdlfgggmigcnaaDoor.NtRef
set_option maxRecDepth 100000
open Go.RowKit Go.Shelf Go.Lib
open Go.Proofs.YtcdlfgggmigcnaaDoor.Utf Go.Proofs.YtcdlfgggmigcnaaDoor.Strs

def isZ (c : Int) : Bool := decide (0 ≤ c ∧ c ≤ 1114111 ∧ (c < 55296 ∨ 57343 < c))
theorem isZ_iff (c : Int) : isZ c = true ↔ (0 ≤ c ∧ c ≤ 1114111 ∧ (c < 55296 ∨ 57343 < c)) := by simp [isZ]
theorem size_list (s : ByteArray) : s.data.toList.length = s.size := by simp
theorem int_info : (Tryd.prog.info? 3).map (fun i => (i.zero, i.size, i.bytes)) = some (some (.int .i64 0), 1, 8) := by kernel_rfl
/-- A slice value that reads as a list of integers. -/
def IntSl (w : World) (v : Value) (R : List Int) : Prop :=
  ∃ A cap, v = .slice A R.length cap ∧ R.length ≤ cap ∧ (0 < R.length → ∃ g off, A = some ⟨g, off, none⟩ ∧ ∀ j, j < R.length → w.cell? ⟨g, off + j, none⟩ = some (.int .i64 (R.getD j 0)))

theorem IntSl.of_own {w : World} {base : Nat} {e : TypeId} {v : Value} {n : Nat} {R : List Int} (h : w.ownsRow base e 1 v n (R.map (Value.int .i64))) : IntSl w v R := by
  have hn : R.length = n := by have := h.1; simpa using this
  rcases h.2 with ⟨rfl, h0⟩ | ⟨g, cap, cur, rfl, hb, hg, hcap, _, hcs, htake⟩
  · exact ⟨none, 0, by rw [hn, h0], by omega, fun hh => by omega⟩
  · refine ⟨_, cap, by rw [hn], by omega, fun _ => ⟨g, 0, rfl, fun j hj => ?_⟩⟩
    have h1 : (R.map (Value.int .i64))[j]? = some (.int .i64 (R.getD j 0)) := by simp [List.getD, List.getElem?_eq_getElem hj]
    rw [← htake, List.getElem?_take, if_pos (by omega)] at h1
    simp only [World.cell?, hg, Nat.zero_add]
    simpa using h1

theorem IntSl.below {w w' : World} {v : Value} {R : List Int} (h : IntSl w v R) (hb : Below w.heap.size w w') : IntSl w' v R := by
  obtain ⟨A, cap, hv, hc, hr⟩ := h
  refine ⟨A, cap, hv, hc, fun h0 => ?_⟩
  obtain ⟨g, off, hA, hj⟩ := hr h0
  exact ⟨g, off, hA, fun j hlt => (hb.cell (World.block_lt_of_cell? _ _ (hj j hlt))).trans (hj j hlt)⟩
theorem IntSl.drewN {w : World} {v : Value} {R : List Int} (h : IntSl w v R) (q : Nat) : IntSl (w.drewN q) v R := h

theorem IntSl.form {w : World} {v : Value} {R : List Int} (h : IntSl w v R) : ∃ A cap, v = .slice A R.length cap := by
  obtain ⟨A, cap, hv, _⟩ := h
  exact ⟨A, cap, hv⟩
theorem nil_reads (w : World) : IntSl w (.slice none 0 0) [] := ⟨none, 0, rfl, Nat.le_refl _, fun h => absurd h (by simp)⟩

set_option maxHeartbeats 400000 in
theorem ref_is_any (c : Int) (w : World) :
    Calls Tryd.prog 130 #[.int .i64 c] w fun e w' => e = .returned (.bool (isZ c)) ∧ w = w' := by
  by_cases a0 : 0 ≤ c
  · by_cases a1 : c ≤ 1114111
    · by_cases a2 : c < 55296
      · have hz : isZ c = true := by simp [isZ]; omega
        rw [hz]
        clear hz
        go_enter Tryd.func130, Tryd.ntmps130
        go_wp2
        go_ret
        exact ⟨rfl, rfl⟩
      · by_cases a3 : 57343 < c
        · have hz : isZ c = true := by simp [isZ]; omega
          rw [hz]
          clear hz
          go_enter Tryd.func130, Tryd.ntmps130
          go_wp2
          go_ret
          exact ⟨rfl, rfl⟩
        · have hz : isZ c = false := by simp [isZ]; omega
          rw [hz]
          clear hz
          go_enter Tryd.func130, Tryd.ntmps130
          go_wp2
          go_ret
          exact ⟨rfl, rfl⟩
    · have hz : isZ c = false := by simp [isZ]; omega
      rw [hz]
      clear hz
      go_enter Tryd.func130, Tryd.ntmps130
      go_wp2
      go_ret
      exact ⟨rfl, rfl⟩
  · have hz : isZ c = false := by simp [isZ]; omega
    rw [hz]
    clear hz
    go_enter Tryd.func130, Tryd.ntmps130
    go_wp2
    go_ret
    exact ⟨rfl, rfl⟩


/-- The number of the byte at an index, 0 behind the end. -/
def byt (s : ByteArray) (i : Nat) : Nat := (s.data.toList.getD i 0).toNat
theorem byt_lt (s : ByteArray) (i : Nat) : byt s i < 256 := UInt8.toNat_lt _
theorem byt_get (s : ByteArray) (i : Nat) (h : i < s.size) : (s[i]'h).toNat = byt s i := by
  unfold byt
  have h2 : i < s.data.toList.length := by simp; exact h
  rw [List.getD_eq_getElem?_getD, List.getElem?_eq_getElem h2]
  rfl
/-- Whether the byte at an index is a continuation byte. -/
def tailB (s : ByteArray) (i : Nat) : Bool := decide (i < s.size) && (decide (128 ≤ byt s i) && decide (byt s i < 192))

set_option maxHeartbeats 400000 in
theorem tail_any (s : ByteArray) (i : Nat) (w : World) :
    Calls Tryd.prog 129 #[.string s, .int .i64 i] w fun e w' => e = .returned (.bool (tailB s i)) ∧ w = w' := by
  by_cases h : i < s.size
  · have hz : (i : Int) < s.size := by omega
    have hb := byt_get s i h
    have h2 := byt_lt s i
    unfold tailB
    generalize byt s i = b at *
    rw [decide_eq_true h, Bool.true_and]
    by_cases h3 : 128 ≤ b
    · rw [decide_eq_true h3, Bool.true_and]
      have h3z : (128 : Int) ≤ b := by omega
      by_cases h4 : b < 192
      · rw [decide_eq_true h4]
        have h4z : (b : Int) < 192 := by omega
        go_enter Tryd.func129, Tryd.ntmps129
        go_wp2
        go_ret
        exact ⟨rfl, rfl⟩
      · rw [decide_eq_false h4]
        have h4z : ¬ (b : Int) < 192 := by omega
        go_enter Tryd.func129, Tryd.ntmps129
        go_wp2
        go_ret
        exact ⟨rfl, rfl⟩
    · rw [decide_eq_false h3, Bool.false_and]
      have h3z : ¬ (128 : Int) ≤ b := by omega
      go_enter Tryd.func129, Tryd.ntmps129
      go_wp2
      go_ret
      exact ⟨rfl, rfl⟩
  · have hz : ¬ (i : Int) < s.size := by omega
    unfold tailB
    rw [decide_eq_false h, Bool.false_and]
    go_enter Tryd.func129, Tryd.ntmps129
    go_wp2
    go_ret
    exact ⟨rfl, rfl⟩

theorem tailB_yes (s : ByteArray) (i : Nat) (h : tailB s i = true) : i < s.size ∧ 128 ≤ byt s i ∧ byt s i < 192 := by simpa [tailB] using h
theorem tailB_no (s : ByteArray) (i : Nat) (h : tailB s i = false) : i < s.size → byt s i / 64 ≠ 2 := by
  intro hi he
  have : tailB s i = true := by simp [tailB, hi]; omega
  rw [this] at h
  cases h

/-- What the reference's point returns. -/
def pt (s : ByteArray) : Int × Int := if (decodeL s.data.toList).1 = 65533 ∧ (decodeL s.data.toList).2 = 1 then (0, 0) else ((decodeL s.data.toList).1, (decodeL s.data.toList).2)
theorem pt_N (s : ByteArray) : decodeL s.data.toList = decodeN s.size (byt s 0) (byt s 1) (byt s 2) (byt s 3) := by
  rw [decodeL_N, size_list]
  rfl
theorem pt_ok (s : ByteArray) (c k : Nat) (h : decodeN s.size (byt s 0) (byt s 1) (byt s 2) (byt s 3) = (c, k)) (hk : c ≠ 65533 ∨ k ≠ 1) : pt s = ((c : Int), (k : Int)) := by
  unfold pt
  rw [pt_N, h, if_neg (by simp only; omega)]
theorem pt_bad (s : ByteArray) (h : decodeN s.size (byt s 0) (byt s 1) (byt s 2) (byt s 3) = (65533, 1)) : pt s = (0, 0) := by
  unfold pt
  rw [pt_N, h, if_pos ⟨rfl, rfl⟩]

set_option maxRecDepth 100000 in
theorem dn2 (n a b1 b2 b3 : Nat) (h0 : 194 ≤ a) (h1 : a < 224) (hn : 1 < n) (hb : 128 ≤ b1 ∧ b1 < 192) : decodeN n a b1 b2 b3 = ((a - 192) * 64 + (b1 - 128), 2) := by
  unfold decodeN
  rw [if_neg (by omega), if_pos (by omega), if_pos (by omega)]
  congr 1
  omega
theorem dn2_bad (n a b1 b2 b3 : Nat) (h0 : 194 ≤ a) (h1 : a < 224) (hn : 1 < n → b1 / 64 ≠ 2) : decodeN n a b1 b2 b3 = (65533, 1) :=
  decodeN_alone _ _ _ _ _ (by omega) (by omega)
set_option maxRecDepth 100000 in
theorem dn3 (n a b1 b2 b3 : Nat) (h0 : 224 ≤ a) (h1 : a < 240) (hn : 2 < n) (hb : 128 ≤ b1 ∧ b1 < 192) (hc : 128 ≤ b2 ∧ b2 < 192) (c : Nat) (hcc : c = ((a - 224) * 64 + (b1 - 128)) * 64 + (b2 - 128)) :
    decodeN n a b1 b2 b3 = if 2048 ≤ c ∧ (c < 55296 ∨ 57344 ≤ c) then (c, 3) else (65533, 1) := by
  unfold decodeN
  rw [if_neg (by omega), if_neg (by omega), if_pos (by omega)]
  have e : a % 16 * 4096 + b1 % 64 * 64 + b2 % 64 = c := by omega
  rw [e]
  by_cases h : 2048 ≤ c ∧ (c < 55296 ∨ 57344 ≤ c)
  · rw [if_pos h, if_pos (by omega)]
  · rw [if_neg h, if_neg (by omega)]
set_option maxRecDepth 100000 in
theorem dn3_bad (n a b1 b2 b3 : Nat) (h0 : 224 ≤ a) (h1 : a < 240) (hn : ¬ (2 < n ∧ b1 / 64 = 2 ∧ b2 / 64 = 2)) : decodeN n a b1 b2 b3 = (65533, 1) := by
  unfold decodeN
  rw [if_neg (by omega), if_neg (by omega), if_neg (by omega), if_neg (by omega)]
set_option maxRecDepth 100000 in
theorem dn4 (n a b1 b2 b3 : Nat) (h0 : 240 ≤ a) (h1 : a < 245) (hn : 3 < n) (hb : 128 ≤ b1 ∧ b1 < 192) (hc : 128 ≤ b2 ∧ b2 < 192) (hd : 128 ≤ b3 ∧ b3 < 192) (c : Nat) (hcc : c = (((a - 240) * 64 + (b1 - 128)) * 64 + (b2 - 128)) * 64 + (b3 - 128)) :
    decodeN n a b1 b2 b3 = if 65536 ≤ c ∧ c ≤ 1114111 then (c, 4) else (65533, 1) := by
  unfold decodeN
  rw [if_neg (by omega), if_neg (by omega), if_neg (by omega), if_pos (by omega)]
  have e : a % 8 * 262144 + b1 % 64 * 4096 + b2 % 64 * 64 + b3 % 64 = c := by omega
  rw [e]
  by_cases h : 65536 ≤ c ∧ c ≤ 1114111
  · rw [if_pos h, if_pos (by omega)]
  · rw [if_neg h, if_neg (by omega)]
set_option maxRecDepth 100000 in
theorem dn4_bad (n a b1 b2 b3 : Nat) (h0 : 240 ≤ a) (h1 : a < 245) (hn : ¬ (3 < n ∧ b1 / 64 = 2 ∧ b2 / 64 = 2 ∧ b3 / 64 = 2)) : decodeN n a b1 b2 b3 = (65533, 1) := by
  unfold decodeN
  rw [if_neg (by omega), if_neg (by omega), if_neg (by omega), if_neg (by omega)]
theorem ret2 {a b c d : Int} (h : a = b) (h' : c = d) : Ending.returned (.tuple #[.int .i64 a, .int .i64 c]) = Ending.returned (.tuple #[.int .i64 b, .int .i64 d]) := by rw [h, h']

set_option maxRecDepth 100000 in
set_option maxHeartbeats 2000000 in
theorem point_any (s : ByteArray) (w : World) (hs : s.size < 1000000) (h0 : 0 < s.size) :
    Calls Tryd.prog 120 #[.string s] w fun e w' => e = .returned (.tuple #[.int .i64 (pt s).1, .int .i64 (pt s).2]) ∧ ∃ q, w' = w.drewN q := by
  have T1 := Lib.hid (fun W => tail_any s 1 W)
  have T2 := Lib.hid (fun W => tail_any s 2 W)
  have T3 := Lib.hid (fun W => tail_any s 3 W)
  have y1 := tailB_yes s 1
  have y2 := tailB_yes s 2
  have y3 := tailB_yes s 3
  have n1 := tailB_no s 1
  have n2 := tailB_no s 2
  have n3 := tailB_no s 3
  have g0 := byt_get s 0 h0
  have g1 := byt_get s 1
  have g2 := byt_get s 2
  have g3 := byt_get s 3
  have l0 := byt_lt s 0
  have po := pt_ok s
  have pb := pt_bad s
  have h0z : (0 : Int) < s.size := by omega
  generalize byt s 0 = a at *
  generalize byt s 1 = b1 at *
  generalize byt s 2 = b2 at *
  generalize byt s 3 = b3 at *
  generalize pt s = p at *
  generalize tailB s 1 = t1 at *
  generalize tailB s 2 = t2 at *
  generalize tailB s 3 = t3 at *
  by_cases a1 : a < 128
  · have hp := po a 1 (decodeN_ascii _ _ _ _ _ a1) (.inl (by omega))
    subst hp
    have a1z : (a : Int) < 128 := by omega
    clear T1 T2 T3 y1 y2 y3 n1 n2 n3 g1 g2 g3 po pb
    go_enter Tryd.func120, Tryd.ntmps120
    go_wp2
    go_ret2
    exact ⟨rfl, 0, rfl⟩
  · have a1z : ¬ (a : Int) < 128 := by omega
    by_cases a2 : a < 194 ∨ 245 ≤ a
    · have hp := pb (decodeN_bad _ _ _ _ _ (by omega))
      rcases a2 with a2 | a2
      · subst hp
        have a2z : (a : Int) < 194 := by omega
        clear T1 T2 T3 y1 y2 y3 n1 n2 n3 g1 g2 g3 po pb
        go_enter Tryd.func120, Tryd.ntmps120
        go_wp2_with (fail)
        go_ret2
        exact ⟨rfl, 0, rfl⟩
      · subst hp
        have a2z : (245 : Int) ≤ a := by omega
        clear T1 T2 T3 y1 y2 y3 n1 n2 n3 g1 g2 g3 po pb
        go_enter Tryd.func120, Tryd.ntmps120
        go_wp2_with (fail)
        go_ret2
        exact ⟨rfl, 0, rfl⟩
    · have a2z : (194 : Int) ≤ a := by omega
      have a2y : (a : Int) < 245 := by omega
      by_cases a3 : a < 224
      · have a3z : (a : Int) < 224 := by omega
        cases t1
        · have hp := pb (dn2_bad _ _ _ _ _ (by omega) a3 (n1 rfl))
          subst hp
          clear T2 T3 y1 y2 y3 n1 n2 n3 g1 g2 g3 po pb a2
          go_enter Tryd.func120, Tryd.ntmps120
          go_wp2_with (fail)
          refine (T1.out _).mono ?_
          rintro e w' ⟨rfl, rfl⟩
          go_wp2_with (fail)
          go_ret2
          exact ⟨rfl, 0, rfl⟩
        · obtain ⟨q1, q2, q3⟩ := y1 rfl
          have hp := po _ _ (dn2 _ _ _ _ _ (by omega) a3 q1 ⟨q2, q3⟩) (.inr (by omega))
          have g1' := g1 q1
          have q1z : (1 : Int) < s.size := by omega
          have q2z : (128 : Int) ≤ b1 := by omega
          have q3z : (b1 : Int) < 192 := by omega
          have ea : ((a - 192) * 64 + (b1 - 128) : Nat) = (((a : Int) - 192) * 64 + b1) - 128 := by omega
          subst hp
          have Ea := Lib.hid ea
          clear T2 T3 y1 y2 y3 n1 n2 n3 g1 g2 g3 po pb a2 ea
          go_enter Tryd.func120, Tryd.ntmps120
          go_wp2_with (fail)
          refine (T1.out _).mono ?_
          rintro e w' ⟨rfl, rfl⟩
          go_wp2_with (fail)
          go_ret2
          exact ⟨ret2 Ea.out.symm rfl, 0, rfl⟩
      · have a3z : ¬ (a : Int) < 224 := by omega
        have a3y : (224 : Int) ≤ a := by omega
        by_cases a4 : a < 240
        · have a4z : (a : Int) < 240 := by omega
          cases t1
          · have hp := pb (dn3_bad _ _ _ _ _ (by omega) a4 (fun h => n1 rfl (by omega) h.2.1))
            subst hp
            clear T2 T3 y1 y2 y3 n1 n2 n3 g1 g2 g3 po pb a2
            go_enter Tryd.func120, Tryd.ntmps120
            go_wp2_with (fail)
            refine (T1.out _).mono ?_
            rintro e w' ⟨rfl, rfl⟩
            go_wp2_with (fail)
            go_ret2
            exact ⟨rfl, 0, rfl⟩
          · obtain ⟨q1, q2, q3⟩ := y1 rfl
            cases t2
            · have hp := pb (dn3_bad _ _ _ _ _ (by omega) a4 (fun h => n2 rfl (by omega) h.2.2))
              subst hp
              clear T3 y1 y2 y3 n1 n2 n3 g1 g2 g3 po pb a2
              go_enter Tryd.func120, Tryd.ntmps120
              go_wp2_with (fail)
              refine (T1.out _).mono ?_
              rintro e w' ⟨rfl, rfl⟩
              go_wp2_with (fail)
              refine (T2.out _).mono ?_
              rintro e w' ⟨rfl, rfl⟩
              go_wp2_with (fail)
              go_ret2
              exact ⟨rfl, 0, rfl⟩
            · obtain ⟨r1, r2, r3⟩ := y2 rfl
              have hdn := fun c hc => dn3 s.size a b1 b2 b3 (by omega) a4 r1 ⟨q2, q3⟩ ⟨r2, r3⟩ c hc
              obtain ⟨c, hc⟩ : ∃ c, c = ((a - 224) * 64 + (b1 - 128)) * 64 + (b2 - 128) := ⟨_, rfl⟩
              have hd := hdn c hc
              have ea : (((a : Int) - 224) * 64 + b1 - 128) * 64 + b2 - 128 = (c : Int) := by omega
              have g1' := g1 q1
              have g2' := g2 r1
              have q1z : (1 : Int) < s.size := by omega
              have r1z : (2 : Int) < s.size := by omega
              have q2z : (128 : Int) ≤ b1 := by omega
              have q3z : (b1 : Int) < 192 := by omega
              have r2z : (128 : Int) ≤ b2 := by omega
              have r3z : (b2 : Int) < 192 := by omega
              have HI := Lib.hid (fun W => ref_is_any ((((a : Int) - 224) * 64 + b1 - 128) * 64 + b2 - 128) W)
              have hiz := isZ_iff (c : Int)
              rw [ea] at HI
              rw [← ea] at HI
              by_cases c1 : 2048 ≤ c
              · by_cases c2 : c < 55296 ∨ 57344 ≤ c
                · rw [if_pos ⟨c1, c2⟩] at hd
                  have hp := po c 3 hd (.inr (by omega))
                  have hi : isZ ((((a : Int) - 224) * 64 + b1 - 128) * 64 + b2 - 128) = true := by rw [ea, hiz]; omega
                  have c1z : (2048 : Int) ≤ (((a : Int) - 224) * 64 + b1 - 128) * 64 + b2 - 128 := by omega
                  rw [hi] at HI
                  subst hp
                  have Ea := Lib.hid ea
                  clear T3 y1 y2 y3 n1 n2 n3 g1 g2 g3 po pb a2 hd hdn hc hiz ea hi c2
                  go_enter Tryd.func120, Tryd.ntmps120
                  go_wp2_with (fail)
                  refine (T1.out _).mono ?_
                  rintro e w' ⟨rfl, rfl⟩
                  go_wp2_with (fail)
                  refine (T2.out _).mono ?_
                  rintro e w' ⟨rfl, rfl⟩
                  go_wp2_with (fail)
                  go_quiet (fail)
                  go_wp2_with (fail)
                  refine (HI.out _).mono ?_
                  rintro e w' ⟨rfl, rfl⟩
                  go_wp2_with (fail)
                  go_ret2
                  exact ⟨ret2 Ea.out rfl, _, rfl⟩
                · rw [if_neg (fun h => c2 h.2)] at hd
                  have hp := pb hd
                  have hi : isZ ((((a : Int) - 224) * 64 + b1 - 128) * 64 + b2 - 128) = false := by
                    rw [Bool.eq_false_iff]
                    intro h
                    rw [ea, hiz] at h
                    omega
                  have c1z : (2048 : Int) ≤ (((a : Int) - 224) * 64 + b1 - 128) * 64 + b2 - 128 := by omega
                  rw [hi] at HI
                  subst hp
                  clear T3 y1 y2 y3 n1 n2 n3 g1 g2 g3 po pb a2 hd hdn hc hiz ea hi c2
                  go_enter Tryd.func120, Tryd.ntmps120
                  go_wp2_with (fail)
                  refine (T1.out _).mono ?_
                  rintro e w' ⟨rfl, rfl⟩
                  go_wp2_with (fail)
                  refine (T2.out _).mono ?_
                  rintro e w' ⟨rfl, rfl⟩
                  go_wp2_with (fail)
                  go_quiet (fail)
                  go_wp2_with (fail)
                  refine (HI.out _).mono ?_
                  rintro e w' ⟨rfl, rfl⟩
                  go_wp2_with (fail)
                  go_ret2
                  exact ⟨rfl, _, rfl⟩
              · rw [if_neg (fun h => c1 h.1)] at hd
                have hp := pb hd
                have c1z : ¬ (2048 : Int) ≤ (((a : Int) - 224) * 64 + b1 - 128) * 64 + b2 - 128 := by omega
                subst hp
                clear T3 y1 y2 y3 n1 n2 n3 g1 g2 g3 po pb a2 hd hdn hc hiz ea HI
                go_enter Tryd.func120, Tryd.ntmps120
                go_wp2_with (fail)
                refine (T1.out _).mono ?_
                rintro e w' ⟨rfl, rfl⟩
                go_wp2_with (fail)
                refine (T2.out _).mono ?_
                rintro e w' ⟨rfl, rfl⟩
                go_wp2_with (fail)
                go_quiet (fail)
                go_wp2_with (fail)
                go_ret2
                exact ⟨rfl, _, rfl⟩
        · have a4z : ¬ (a : Int) < 240 := by omega
          have a4y : (240 : Int) ≤ a := by omega
          cases t1
          · have hp := pb (dn4_bad _ _ _ _ _ (by omega) (by omega) (fun h => n1 rfl (by omega) h.2.1))
            subst hp
            clear T2 T3 y1 y2 y3 n1 n2 n3 g1 g2 g3 po pb a2
            go_enter Tryd.func120, Tryd.ntmps120
            go_wp2_with (fail)
            refine (T1.out _).mono ?_
            rintro e w' ⟨rfl, rfl⟩
            go_wp2_with (fail)
            go_ret2
            exact ⟨rfl, 0, rfl⟩
          · obtain ⟨q1, q2, q3⟩ := y1 rfl
            cases t2
            · have hp := pb (dn4_bad _ _ _ _ _ (by omega) (by omega) (fun h => n2 rfl (by omega) h.2.2.1))
              subst hp
              clear T3 y1 y2 y3 n1 n2 n3 g1 g2 g3 po pb a2
              go_enter Tryd.func120, Tryd.ntmps120
              go_wp2_with (fail)
              refine (T1.out _).mono ?_
              rintro e w' ⟨rfl, rfl⟩
              go_wp2_with (fail)
              refine (T2.out _).mono ?_
              rintro e w' ⟨rfl, rfl⟩
              go_wp2_with (fail)
              go_ret2
              exact ⟨rfl, 0, rfl⟩
            · obtain ⟨r1, r2, r3⟩ := y2 rfl
              cases t3
              · have hp := pb (dn4_bad _ _ _ _ _ (by omega) (by omega) (fun h => n3 rfl (by omega) h.2.2.2))
                subst hp
                clear y1 y2 y3 n1 n2 n3 g1 g2 g3 po pb a2
                go_enter Tryd.func120, Tryd.ntmps120
                go_wp2_with (fail)
                refine (T1.out _).mono ?_
                rintro e w' ⟨rfl, rfl⟩
                go_wp2_with (fail)
                refine (T2.out _).mono ?_
                rintro e w' ⟨rfl, rfl⟩
                go_wp2_with (fail)
                refine (T3.out _).mono ?_
                rintro e w' ⟨rfl, rfl⟩
                go_wp2_with (fail)
                go_ret2
                exact ⟨rfl, 0, rfl⟩
              · obtain ⟨s1, s2, s3⟩ := y3 rfl
                have hdn := fun c hc => dn4 s.size a b1 b2 b3 (by omega) (by omega) s1 ⟨q2, q3⟩ ⟨r2, r3⟩ ⟨s2, s3⟩ c hc
                obtain ⟨c, hc⟩ : ∃ c, c = (((a - 240) * 64 + (b1 - 128)) * 64 + (b2 - 128)) * 64 + (b3 - 128) := ⟨_, rfl⟩
                have hd := hdn c hc
                have ea : ((((a : Int) - 240) * 64 + b1 - 128) * 64 + b2 - 128) * 64 + b3 - 128 = (c : Int) := by omega
                have g1' := g1 q1
                have g2' := g2 r1
                have g3' := g3 s1
                have q1z : (1 : Int) < s.size := by omega
                have r1z : (2 : Int) < s.size := by omega
                have s1z : (3 : Int) < s.size := by omega
                have q2z : (128 : Int) ≤ b1 := by omega
                have q3z : (b1 : Int) < 192 := by omega
                have r2z : (128 : Int) ≤ b2 := by omega
                have r3z : (b2 : Int) < 192 := by omega
                have s2z : (128 : Int) ≤ b3 := by omega
                have s3z : (b3 : Int) < 192 := by omega
                have HI := Lib.hid (fun W => ref_is_any (((((a : Int) - 240) * 64 + b1 - 128) * 64 + b2 - 128) * 64 + b3 - 128) W)
                have hiz := isZ_iff (c : Int)
                by_cases c1 : 65536 ≤ c
                · by_cases c2 : c ≤ 1114111
                  · rw [if_pos ⟨c1, c2⟩] at hd
                    have hp := po c 4 hd (.inr (by omega))
                    have hi : isZ (((((a : Int) - 240) * 64 + b1 - 128) * 64 + b2 - 128) * 64 + b3 - 128) = true := by rw [ea, hiz]; omega
                    have c1z : (65536 : Int) ≤ ((((a : Int) - 240) * 64 + b1 - 128) * 64 + b2 - 128) * 64 + b3 - 128 := by omega
                    rw [hi] at HI
                    subst hp
                    have Ea := Lib.hid ea
                    clear y1 y2 y3 n1 n2 n3 g1 g2 g3 po pb a2 hd hdn hc hiz ea hi c2
                    go_enter Tryd.func120, Tryd.ntmps120
                    go_wp2_with (fail)
                    refine (T1.out _).mono ?_
                    rintro e w' ⟨rfl, rfl⟩
                    go_wp2_with (fail)
                    refine (T2.out _).mono ?_
                    rintro e w' ⟨rfl, rfl⟩
                    go_wp2_with (fail)
                    refine (T3.out _).mono ?_
                    rintro e w' ⟨rfl, rfl⟩
                    go_wp2_with (fail)
                    go_quiet (fail)
                    go_wp2_with (fail)
                    refine (HI.out _).mono ?_
                    rintro e w' ⟨rfl, rfl⟩
                    go_wp2_with (fail)
                    go_ret2
                    exact ⟨ret2 Ea.out rfl, _, rfl⟩
                  · rw [if_neg (fun h => c2 h.2)] at hd
                    have hp := pb hd
                    have hi : isZ (((((a : Int) - 240) * 64 + b1 - 128) * 64 + b2 - 128) * 64 + b3 - 128) = false := by
                      rw [Bool.eq_false_iff]
                      intro h
                      rw [ea, hiz] at h
                      omega
                    have c1z : (65536 : Int) ≤ ((((a : Int) - 240) * 64 + b1 - 128) * 64 + b2 - 128) * 64 + b3 - 128 := by omega
                    rw [hi] at HI
                    subst hp
                    clear y1 y2 y3 n1 n2 n3 g1 g2 g3 po pb a2 hd hdn hc hiz ea hi c2
                    go_enter Tryd.func120, Tryd.ntmps120
                    go_wp2_with (fail)
                    refine (T1.out _).mono ?_
                    rintro e w' ⟨rfl, rfl⟩
                    go_wp2_with (fail)
                    refine (T2.out _).mono ?_
                    rintro e w' ⟨rfl, rfl⟩
                    go_wp2_with (fail)
                    refine (T3.out _).mono ?_
                    rintro e w' ⟨rfl, rfl⟩
                    go_wp2_with (fail)
                    go_quiet (fail)
                    go_wp2_with (fail)
                    refine (HI.out _).mono ?_
                    rintro e w' ⟨rfl, rfl⟩
                    go_wp2_with (fail)
                    go_ret2
                    exact ⟨rfl, _, rfl⟩
                · rw [if_neg (fun h => c1 h.1)] at hd
                  have hp := pb hd
                  have c1z : ¬ (65536 : Int) ≤ ((((a : Int) - 240) * 64 + b1 - 128) * 64 + b2 - 128) * 64 + b3 - 128 := by omega
                  subst hp
                  clear y1 y2 y3 n1 n2 n3 g1 g2 g3 po pb a2 hd hdn hc hiz ea HI
                  go_enter Tryd.func120, Tryd.ntmps120
                  go_wp2_with (fail)
                  refine (T1.out _).mono ?_
                  rintro e w' ⟨rfl, rfl⟩
                  go_wp2_with (fail)
                  refine (T2.out _).mono ?_
                  rintro e w' ⟨rfl, rfl⟩
                  go_wp2_with (fail)
                  refine (T3.out _).mono ?_
                  rintro e w' ⟨rfl, rfl⟩
                  go_wp2_with (fail)
                  go_quiet (fail)
                  go_wp2_with (fail)
                  go_ret2
                  exact ⟨rfl, _, rfl⟩

/-- How long a string value is. -/
def strSz : Value → Nat
  | .string t => t.size
  | _ => 0

theorem drop_ext (t : ByteArray) (k : Nat) : (t.extract k t.size).data.toList = t.data.toList.drop k := ext_list t k

theorem list_ne (t : ByteArray) (h : 0 < t.size) : t.data.toList ≠ [] := by
  intro h0
  have := size_list t
  rw [h0] at this
  simp at this
  omega

theorem pt_split (t : ByteArray) (h : 0 < t.size) : (validD t.data.toList = false ∧ pt t = (0, 0)) ∨ (∃ c k : Nat, pt t = ((c : Int), (k : Int)) ∧ 1 ≤ k ∧ k ≤ t.size ∧ c ≤ 2147483647 ∧ runes t.data.toList = (c : Int) :: runes (t.extract k t.size).data.toList ∧ validD t.data.toList = validD (t.extract k t.size).data.toList) := by
  have hne := list_ne t h
  by_cases hb : (decodeL t.data.toList).1 = 65533 ∧ (decodeL t.data.toList).2 = 1
  · left
    refine ⟨?_, ?_⟩
    · rw [validD_step _ hne, if_pos hb]
    · unfold pt; rw [if_pos hb]
  · right
    refine ⟨(decodeL t.data.toList).1, (decodeL t.data.toList).2, ?_, decodeL_width _, ?_, ?_, ?_, ?_⟩
    · unfold pt; rw [if_neg hb]
    · have := decodeL_le _ hne
      rwa [size_list] at this
    · have h1 := from_decode t 0
      rw [from_zero] at h1
      rw [h1]
      exact decode_le t 0
    · rw [drop_ext]
      exact runes_step _ hne
    · rw [drop_ext, validD_step _ hne, if_neg hb]

/-- What the reference's List leaves. -/
def RefLists (w : World) (V : Bool) (R : List Int) (e : Ending) (w' : World) : Prop :=
  ((V = true ∧ ∃ v, e = .returned (.tuple #[v, .int .i64 0]) ∧ IntSl w' v R) ∨ (V = false ∧ e = .returned (.tuple #[.slice none 0 0, .int .i64 5]))) ∧ Below w.heap.size w w'

set_option maxHeartbeats 2000000 in
theorem ref_list (s : ByteArray) (w : World) (hs : s.size < 1000000) :
    Calls Tryd.prog 102 #[.string s] w (RefLists w (validD s.data.toList) (runes s.data.toList)) := by
  obtain ⟨R, hR⟩ : ∃ R, runes s.data.toList = R := ⟨_, rfl⟩
  obtain ⟨V, hV⟩ : ∃ V, validD s.data.toList = V := ⟨_, rfl⟩
  have HR0 : Hid (runes s.data.toList = R.drop 0) := hR
  have HV0 : Hid (validD s.data.toList = V) := hV
  have hRL : R.length ≤ s.size := by
    have := runes_length s.data.toList
    rwa [hR, size_list] at this
  obtain ⟨i0, hi, hz0, hz1, hz2⟩ := info_parts int_info
  have HI := Lib.hid hi
  have HZ0 := Lib.hid hz0
  have HZ1 := Lib.hid hz1
  have HZ2 := Lib.hid hz2
  have HP := Lib.hid (fun t W (h : t.size < 1000000) (h0 : 0 < t.size) => point_any t W h h0)
  rw [hR, hV]
  clear hi hz0 hz1 hz2 hR hV
  have hbase : w.heap.size ≤ w.heap.size := Nat.le_refl _
  have hb0 := Below.refl w.heap.size w
  have hown0 : w.ownsRow w.heap.size 3 1 (.slice none 0 0) 0 ([] : List Value) := ⟨by simp, .inl ⟨rfl, rfl⟩⟩
  go_enter Tryd.func102, Tryd.ntmps102
  go_wp2
  go_loopw [0, 4] (fun x v wr => ∃ (t : ByteArray) (k : Nat), x = .string t ∧ t.size ≤ s.size ∧ k ≤ R.length ∧ Hid (runes t.data.toList = R.drop k) ∧ Hid (validD t.data.toList = V) ∧ Below w.heap.size w wr ∧ wr.ownsRow w.heap.size 3 1 v k ((R.take k).map (Value.int .i64)) ∧ Hid (∃ ao cap, v = .slice ao k cap)) (fun x _ _ => strSz x)
  case atStart => exact ⟨s, 0, rfl, Nat.le_refl _, Nat.zero_le _, HR0, HV0, hb0, by rw [List.take_zero]; exact hown0, ⟨_, _, rfl⟩⟩
  case round =>
    obtain ⟨t, k, rfl, hts, hkR, HT, HVt, hbr, hownr, HF⟩ := hrel
    by_cases hp : 0 < t.size
    · have hpz : (0 : Int) < t.size := by omega
      have HPt := Lib.hid (fun W => HP.out t W (by omega) hp)
      have hspl := pt_split t hp
      rcases hspl with ⟨hbad, hpt⟩ | ⟨c, m, hpt, hm1, hm2, hc, hrun, hval⟩
      · have hVf : V = false := by rw [← HVt.out, hbad]
        rw [hpt] at HPt
        subst hVf
        clear hpt hbad HT HVt HP hownr HF HR0 HV0 hown0
        go_wp2_with (fail)
        refine (HPt.out _).mono ?_
        rintro e w1 ⟨rfl, q, rfl⟩
        go_wp2_with (fail)
        go_ret2
        exact show RefLists w false R _ _ from ⟨.inr ⟨rfl, rfl⟩, below_drewNv hbr q⟩
      · rw [hpt] at HPt
        have hrun2 := HT.out
        rw [hrun] at hrun2
        have hkR2 : k < R.length := by
          have := congrArg List.length hrun2
          simp at this
          omega
        have hRk : R.take (k + 1) = R.take k ++ [(c : Int)] := by
          have h2 : R[k]? = some (c : Int) := by rw [← List.head?_drop, ← hrun2]; rfl
          rw [List.take_add_one, h2]; rfl
        have hnext : Hid (runes (t.extract m t.size).data.toList = R.drop (k + 1)) := by
          show _ = _
          rw [← List.tail_drop, ← hrun2]
          rfl
        have hVn : Hid (validD (t.extract m t.size).data.toList = V) := by
          show _ = _
          rw [← hval, HVt.out]
        have hex : (t.extract m t.size).size = t.size - m := ext_size t m
        have HRk := Lib.hid hRk
        obtain ⟨ao, cap, rfl⟩ := HF.out
        clear hpt hrun hrun2 hval hRk HT HVt HP HF HR0 HV0 hown0
        have hne : ((m : Int) == 0) = false := by simp; omega
        have hmz : (m : Int) ≤ t.size := by omega
        go_wp2_with (fail)
        refine (HPt.out _).mono ?_
        rintro e w1 ⟨rfl, q, rfl⟩
        have hb1 : Below w.heap.size w (wr.drewN q) := below_drewNv hbr q
        have hown1 : (wr.drewN q).ownsRow w.heap.size 3 1 (.slice ao k cap) k ((R.take k).map (Value.int .i64)) := hownr
        generalize wr.drewN q = w1 at *
        clear HPt hbr hownr
        go_wp2_with (at_builtin; refine wpList_append_own _ rfl (.tmp 17) (.tmp 19) 55 rfl w.heap.size 3 i0 (.int .i64 0) 1 8 Tryd.underlying55 HI.out HZ0.out HZ1.out HZ2.out rfl (by decide) _ _ _ rfl (hown1.alloc _) ⟨w1.heap.size, 0, none⟩ 1 1 [.int .i64 c] rfl rfl ?c1 ?c2 ?c3 ?c4 ?c5 ?_)
        case c1 =>
          intro j u hj
          match j, hj with
          | 0, hj => simp at hj; subst hj; simp [Addr.add]
          | (j + 1), hj => simp at hj
        case c2 => intro u hu; simp at hu; subst hu; rfl
        case c3 => unfold maxLen; omega
        case c4 => omega
        case c5 => have := hb1.size; simp; omega
        intro v' w5 hown5 hgr5 _
        have hb5 : Below w.heap.size w w5 := (hb1.alloc hb1.size _).grown hgr5 (by have := hb1.size; simp; omega) (fun g hg => (hown1.lt g hg).1)
        have HV5 : Hid (∃ ao cap, v' = .slice ao (k + 1) cap) := by
          rcases hown5.2 with ⟨_, h0⟩ | ⟨g, cap, cur, hv, _⟩
          · omega
          · exact ⟨_, cap, hv⟩
        clear hgr5 hown1 hb1
        go_wp2
        go_roundw
        case rel => exact ⟨t.extract m t.size, k + 1, rfl, by omega, by omega, hnext, hVn, hb5, by rw [HRk.out, List.map_append, List.map_take]; exact hown5, HV5⟩
        case measure => show (t.extract m t.size).size < t.size; omega
    · have hpz : ¬ (0 : Int) < t.size := by omega
      have ht0 : t.data.toList = [] := by
        have := size_list t
        exact List.eq_nil_of_length_eq_zero (by omega)
      have hVt : V = true := by rw [← HVt.out, ht0]; rfl
      have HD := HT.out
      rw [ht0, runes_nil] at HD
      have hkl : R.length = k := by have := congrArg List.length HD; simp at this; omega
      have htake : R.take k = R := List.take_of_length_le (by omega)
      rw [htake] at hownr
      have HOw := Lib.hid (IntSl.of_own hownr)
      obtain ⟨ao, cap, rfl⟩ := HF.out
      subst hVt
      clear HD HT HVt HP ht0 htake hownr HF HR0 HV0 hown0
      go_wp2
      go_ret2
      exact show RefLists w true R _ _ from ⟨.inl ⟨rfl, _, rfl, HOw.out⟩, hbr⟩

theorem ref_list_yes (s : ByteArray) (w : World) (hs : s.size < 1000000) (hv : validD s.data.toList = true) :
    Calls Tryd.prog 102 #[.string s] w fun e w' => (∃ v, e = .returned (.tuple #[v, .int .i64 0]) ∧ IntSl w' v (runes s.data.toList)) ∧ Below w.heap.size w w' :=
  (ref_list s w hs).mono fun _ _ h => ⟨h.1.elim (fun k => k.2) (fun k => absurd (hv.symm.trans k.1) (by decide)), h.2⟩
theorem ref_list_no (s : ByteArray) (w : World) (hs : s.size < 1000000) (hv : validD s.data.toList = false) :
    Calls Tryd.prog 102 #[.string s] w fun e w' => e = .returned (.tuple #[.slice none 0 0, .int .i64 5]) ∧ Below w.heap.size w w' :=
  (ref_list s w hs).mono fun _ _ h => ⟨h.1.elim (fun k => absurd (hv.symm.trans k.1) (by decide)) (fun k => k.2), h.2⟩

/-- What the reference's List returns, as a slice and a code. -/
theorem ref_list_any (s : ByteArray) (w : World) (hs : s.size < 1000000) :
    Calls Tryd.prog 102 #[.string s] w fun e w' => (∃ A cap, e = .returned (.tuple #[.slice A (lenL s.data.toList) cap, .int .i64 (if validD s.data.toList = true then 0 else 5)]) ∧ IntSl w' (.slice A (lenL s.data.toList) cap) (if validD s.data.toList = true then runes s.data.toList else [])) ∧ Below w.heap.size w w' := by
  cases hv : validD s.data.toList
  · rw [show lenL s.data.toList = 0 by simp [lenL, hv]]
    refine (ref_list_no s w hs hv).mono ?_
    rintro e w' ⟨rfl, hb⟩
    exact ⟨⟨none, 0, rfl, nil_reads w'⟩, hb⟩
  · rw [show lenL s.data.toList = (runes s.data.toList).length by simp [lenL, hv]]
    refine (ref_list_yes s w hs hv).mono ?_
    rintro e w' ⟨⟨v, rfl, hi⟩, hb⟩
    obtain ⟨A, cap, rfl⟩ := IntSl.form hi
    exact ⟨⟨A, cap, rfl, hi⟩, hb⟩

theorem ref_valid (s : ByteArray) (w : World) (hs : s.size < 1000000) :
    Calls Tryd.prog 59 #[.string s] w fun e w' => e = .returned (.bool (validD s.data.toList)) ∧ Below w.heap.size w w' := by
  have H := Lib.hid (ref_list_any s w hs)
  generalize lenL s.data.toList = n at *
  generalize runes s.data.toList = R at *
  cases hv : validD s.data.toList
  · rw [hv] at H
    clear hv
    go_enter Tryd.func59, Tryd.ntmps59
    go_wp2_with (fail)
    refine H.out.mono ?_
    rintro e w1 ⟨⟨A, cap, rfl, _⟩, hb⟩
    go_wp2_with (fail)
    go_ret
    exact ⟨rfl, hb⟩
  · rw [hv] at H
    clear hv
    go_enter Tryd.func59, Tryd.ntmps59
    go_wp2_with (fail)
    refine H.out.mono ?_
    rintro e w1 ⟨⟨A, cap, rfl, _⟩, hb⟩
    go_wp2_with (fail)
    go_ret
    exact ⟨rfl, hb⟩

theorem ref_len (s : ByteArray) (w : World) (hs : s.size < 1000000) :
    Calls Tryd.prog 128 #[.string s] w fun e w' => e = .returned (.int .i64 (lenL s.data.toList)) ∧ Below w.heap.size w w' := by
  have H := Lib.hid (ref_list_any s w hs)
  generalize lenL s.data.toList = n at *
  generalize (if validD s.data.toList = true then runes s.data.toList else []) = R at *
  generalize (if validD s.data.toList = true then (0 : Int) else 5) = c at *
  go_enter Tryd.func128, Tryd.ntmps128
  go_wp2_with (fail)
  refine H.out.mono ?_
  rintro e w1 ⟨⟨A, cap, rfl, _⟩, hb⟩
  go_wp2_with (fail)
  go_ret
  exact ⟨rfl, hb⟩

end Go.Proofs.YtcdlfgggmigcnaaDoor.NtRef
