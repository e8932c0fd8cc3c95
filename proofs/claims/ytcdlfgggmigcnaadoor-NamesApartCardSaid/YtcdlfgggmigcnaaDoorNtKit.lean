/- The contracts of the statements' small functions: Int, Sym, Nil, Pick, Times; the reference's list of fixed names. -/
import Derived.Test.YtcdlfgggmigcnaaDoorNtCell
import Derived.Test.YtcdlfgggmigcnaaDoorNtNew
import Derived.LoopTactic
import Derived.IntWalk
namespace Go.Proofs.YtcdlfgggmigcnaaDoor.Nt
set_option maxRecDepth 100000
open Go.RowKit
open Go.Proofs.YtcdlfgggmigcnaaDoor.Own Go.Proofs.YtcdlfgggmigcnaaDoor.Strs

theorem int_any (n : Int) (w : World) : Calls Tryd.prog 18 #[.int .i64 n] w fun e w' => e = .returned (wdv (0, n)) ∧ Below w.heap.size w w' := by
  go_enter Tryd.func18, Tryd.ntmps18
  go_wp2
  refine bodyPost_ret (v := wdv (0, n)) (by simp [results, Tryd.results18, go_sem]) rfl ⟨rfl, (Below.refl _ _).alloc (Nat.le_refl _) _⟩
theorem sym_any (n : Int) (w : World) : Calls Tryd.prog 68 #[.int .i64 n] w fun e w' => e = .returned (wdv (1, n)) ∧ Below w.heap.size w w' := by
  go_enter Tryd.func68, Tryd.ntmps68
  go_wp2
  refine bodyPost_ret (v := wdv (1, n)) (by simp [results, Tryd.results68, go_sem]) rfl ⟨rfl, (Below.refl _ _).alloc (Nat.le_refl _) _⟩
theorem nil_any (w : World) : Calls Tryd.prog 19 #[] w fun e w' => e = .returned (wdv (1, 0)) ∧ Below w.heap.size w w' := by
  have HS := Lib.hid (sym_any 0)
  go_enter Tryd.func19, Tryd.ntmps19
  go_wp2_with fail
  refine (HS.out _).mono ?_
  rintro e w1 ⟨rfl, hb⟩
  obtain ⟨b0, b1, e0, e1⟩ := (one_new hb).two
  go_wp2_with fail
  refine bodyPost_ret (v := wdv (1, 0)) (by simp [results, Tryd.results19, go_sem, b0, b1]) rfl ⟨rfl, ?_⟩
  exact ((((Below.refl w.heap.size w).alloc (Nat.le_refl _) _).trans (hb.mono (by simp))).setCell (by simp) _).setCell (by simp) _

/-- The number that Pick picks. -/
def pickZ (x n : Int) : Int := if x.tmod n < 0 then x.tmod n + n else x.tmod n
theorem pick_range (x n : Int) (h : 0 < n) : 0 ≤ pickZ x n ∧ pickZ x n < n := by
  have h1 := Int.tmod_lt_of_pos x h
  have h2 := Int.lt_tmod_of_pos x h
  unfold pickZ
  split <;> omega
set_option maxHeartbeats 1000000 in
theorem pick_any (x n : Int) (w : World) (h : 0 < n) (hn : n ≤ 4611686018427387904) :
    Calls Tryd.prog 30 #[.int .i64 x, .int .i64 n] w fun e w' => e = .returned (.int .i64 (pickZ x n)) ∧ w = w' := by
  have h1 := Int.tmod_lt_of_pos x h
  have h2 := Int.lt_tmod_of_pos x h
  unfold pickZ
  by_cases hneg : x.tmod n < 0
  · rw [if_pos hneg]
    go_enter Tryd.func30, Tryd.ntmps30
    go_wp2
    go_ret
    exact ⟨rfl, rfl⟩
  · rw [if_neg hneg]
    go_enter Tryd.func30, Tryd.ntmps30
    go_wp2
    go_ret
    exact ⟨rfl, rfl⟩
/-- .. as a natural number. -/
theorem pick_nat (x : Int) (n : Nat) (h : 0 < n) (hn : n ≤ 1000000) : ∃ k : Nat, k < n ∧ ∀ w, Calls Tryd.prog 30 #[.int .i64 x, .int .i64 (n : Int)] w fun e w' => e = .returned (.int .i64 (k : Int)) ∧ w = w' := by
  obtain ⟨k, hk⟩ := Int.eq_ofNat_of_zero_le (pick_range x n (by omega)).1
  have h2 := (pick_range x n (by omega)).2
  exact ⟨k, by omega, fun w => by rw [← hk]; exact pick_any x n w (by omega) (by omega)⟩

/-- A list n times. -/
def flat (n : Nat) (l : List UInt8) : List UInt8 := (List.replicate n l).flatten
theorem flat_add (a b : Nat) (l : List UInt8) : flat (a + b) l = flat a l ++ flat b l := by unfold flat; rw [← List.replicate_append_replicate, List.flatten_append]
theorem flat_length (n : Nat) (l : List UInt8) : (flat n l).length = n * l.length := by unfold flat; simp
set_option maxHeartbeats 2000000 in
theorem times_any (s : ByteArray) (n0 : Nat) (w : World) (hs : s.size ≤ 4) (hn : n0 ≤ 2000) :
    Calls Tryd.prog 49 #[.string s, .int .i64 (n0 : Int)] w fun e w' => (∃ R : ByteArray, e = .returned (.string R) ∧ R.data.toList = flat n0 s.data.toList) ∧ w = w' := by
  have hsl : s.data.toList.length = s.size := by simp
  have HL := Lib.hid hsl
  clear hsl
  go_enter Tryd.func49, Tryd.ntmps49
  go_wp2_with fail
  go_loop [0, 1, 5] (fun a b c => ∃ (S R : ByteArray) (nn k m : Nat), a = .string S ∧ b = .int .i64 (nn : Int) ∧ c = .string R ∧ Hid (k + nn * m = n0) ∧ k ≤ n0 ∧ nn ≤ n0 ∧ (0 < nn → m ≤ n0) ∧ m ≤ 4000 ∧ Hid (S.data.toList = flat m s.data.toList) ∧ Hid (R.data.toList = flat k s.data.toList)) (fun _ b _ => (intOf b).toNat)
  case atStart => exact ⟨s, ⟨#[]⟩, n0, 0, 1, rfl, rfl, rfl, (by show 0 + n0 * 1 = n0; omega), Nat.zero_le _, Nat.le_refl _, fun h => h, by omega, (by show s.data.toList = flat 1 s.data.toList; simp [flat]), (by show _ = _; simp [flat])⟩
  case round =>
    obtain ⟨S, R, nn, k, m, rfl, rfl, rfl, HK, hk, hnn, hm, hm4, HS, HR⟩ := hrel
    by_cases h0 : 0 < nn
    · have h0z : (0 : Int) < (nn : Int) := by omega
      have hm0 := hm h0
      have hSs : S.size = m * s.size := by
        have := congrArg List.length HS.out
        rw [flat_length, HL.out] at this
        simpa using this
      have hRs : R.size = k * s.size := by
        have := congrArg List.length HR.out
        rw [flat_length, HL.out] at this
        simpa using this
      have b1 : S.size ≤ 8000 := by rw [hSs]; exact Nat.le_trans (Nat.mul_le_mul (show m ≤ 2000 by omega) hs) (by omega)
      have b2 : R.size ≤ 8000 := by rw [hRs]; exact Nat.le_trans (Nat.mul_le_mul (show k ≤ 2000 by omega) hs) (by omega)
      have hSS : Hid ((S ++ S).data.toList = flat (2 * m) s.data.toList) := by
        show _ = _
        rw [show 2 * m = m + m by omega, flat_add, ← HS.out]
        simp
      by_cases hodd : nn % 2 = 1
      · have hz : (nn : Int).tmod 2 = 1 := by rw [Int.tmod_eq_emod_of_nonneg (by omega)]; omega
        have hz2 : ((nn : Int).tmod 2 == 1) = true := beq_iff_eq.2 hz
        have hz3 : (nn % 2 == 1) = true := beq_iff_eq.2 hodd
        have hz4 : (nn : Int) % 2 = 1 := by omega
        have hq : (nn : Int).tdiv 2 = ((nn / 2 : Nat) : Int) := by rw [Int.tdiv_eq_ediv_of_nonneg (by omega)]; omega
        have hRS : Hid ((R ++ S).data.toList = flat (k + m) s.data.toList) := by
          show _ = _
          rw [flat_add, ← HS.out, ← HR.out]
          simp
        have e2 : nn = 2 * (nn / 2) + 1 := by omega
        have HK2 : Hid (k + m + nn / 2 * (2 * m) = n0) := by
          show _ = _
          have := HK.out
          rw [e2, Nat.add_mul, Nat.one_mul] at this
          have e3 : nn / 2 * (2 * m) = 2 * (nn / 2) * m := by rw [← Nat.mul_assoc, Nat.mul_comm (nn / 2) 2]
          omega
        have hkm : k + m ≤ n0 := by have := HK2.out; omega
        clear hSs hRs hm e2
        go_wp2_with fail
        go_round
        case rel => exact ⟨S ++ S, R ++ S, nn / 2, k + m, 2 * m, rfl, (by go_num), rfl, HK2, hkm, by omega, fun h => by have := HK2.out; have := Nat.le_mul_of_pos_left (2 * m) h; omega, by omega, hSS, hRS⟩
        case measure => simp [intOf]; omega
      · have hz : (nn : Int).tmod 2 = 0 := by rw [Int.tmod_eq_emod_of_nonneg (by omega)]; omega
        have hz2 : ((nn : Int).tmod 2 == 1) = false := by rw [hz]; rfl
        have hz3 : (nn % 2 == 1) = false := beq_eq_false_iff_ne.2 hodd
        have hz4 : (nn : Int) % 2 = 0 := by omega
        have hq : (nn : Int).tdiv 2 = ((nn / 2 : Nat) : Int) := by rw [Int.tdiv_eq_ediv_of_nonneg (by omega)]; omega
        have e2 : nn = 2 * (nn / 2) := by omega
        have HK2 : Hid (k + nn / 2 * (2 * m) = n0) := by
          show _ = _
          have := HK.out
          rw [e2] at this
          have e3 : nn / 2 * (2 * m) = 2 * (nn / 2) * m := by rw [← Nat.mul_assoc, Nat.mul_comm (nn / 2) 2]
          omega
        clear hSs hRs hm e2
        go_wp2_with fail
        go_round
        case rel => exact ⟨S ++ S, R, nn / 2, k, 2 * m, rfl, (by go_num), rfl, HK2, hk, by omega, fun h => by have := HK2.out; have := Nat.le_mul_of_pos_left (2 * m) h; omega, by omega, hSS, HR⟩
        case measure => simp [intOf]; omega
    · obtain rfl : nn = 0 := by omega
      have hfin : R.data.toList = flat n0 s.data.toList := by
        have := HK.out
        rw [Nat.zero_mul, Nat.add_zero] at this
        rw [← this]
        exact HR.out
      have HF := Lib.hid hfin
      clear hfin HK HS HR hm
      go_wp2_with fail
      go_ret
      exact ⟨⟨R, rfl, HF.out⟩, rfl⟩

/-- The reference's list of the fixed names. -/
theorem fixed_any (w : World) : Calls Tryd.prog 44 #[] w fun e w' => e = .returned (.slice (some ⟨w.heap.size, 0, none⟩) 62 62) ∧ Row w' w.heap.size (fx.map Value.string) ∧ Below w.heap.size w w' := by
  have hrow : Row (w.alloc (.cells fxa 9)) w.heap.size (fx.map Value.string) :=
    ⟨fxa, 9, Blk.new w fxa 9, by rw [List.length_map, fx_length, fxa_size]; exact Nat.le_refl _, by rw [List.length_map, fx_length, fxa_toList, List.take_of_length_le (by rw [List.length_map, fx_length]; exact Nat.le_refl _)]⟩
  have HR := Lib.hid hrow
  have HB := Lib.hid ((Below.refl w.heap.size w).alloc (Nat.le_refl _) (.cells fxa 9))
  clear hrow
  go_enter Tryd.func44, Tryd.ntmps44
  go_wp2_with fail
  go_ret
  exact ⟨rfl, HR.out, HB.out⟩
theorem copy_null (w : World) : Calls Tryd.prog 52 #[.pointer none] w fun e w' => e = .returned (.pointer none) ∧ w = w' := by
  have HV := Lib.hid valid_null
  go_enter Tryd.func52, Tryd.ntmps52
  go_wp2_with fail
  refine (HV.out _).mono ?_
  rintro e w' ⟨rfl, rfl⟩
  go_wp2_with fail
  go_ret
  exact ⟨rfl, rfl⟩
end Go.Proofs.YtcdlfgggmigcnaaDoor.Nt
