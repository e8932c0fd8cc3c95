/- The contracts of the reference's functions on characters: they return what the program's return. -/
import Derived.Test.YtagcfgonajogcaaDoorCase
import Derived.Deep.LoopGhost
import Derived.Great.BuildSlice
namespace Go.Proofs.YtagcfgonajogcaaDoor.RefChars
open Go.RowKit Go.Shelf Go.Lib
open Go.Proofs.YtagcfgonajogcaaDoor.Chars Go.Proofs.YtagcfgonajogcaaDoor.Spans

def noneL : List Int := [768, 879, 1155, 1161, 1425, 1469, 8203, 8207, 8400, 8447, 65024, 65039, 65056, 65071]
def twoL : List Int := [0, 8, 10, 31, 127, 127, 4352, 4447, 11904, 12350, 12353, 42191, 44032, 55203, 63744, 64255, 65072, 65135, 65280, 65376, 65504, 65510, 127744, 128591, 129280, 129535, 131072, 262141]
def wordL : List Int := [48, 57, 65, 90, 97, 122, 170, 170, 181, 181, 186, 186, 192, 214, 216, 246, 248, 591, 768, 893, 895, 902, 904, 1023, 1024, 1327, 1488, 1514, 12353, 12543, 13312, 40959, 44032, 55203, 131072, 262141]

/-- Whether a number is within one of some ranges, given as pairs of their ends. -/
def inL : List Int → Int → Bool
  | a :: b :: r, c => (decide (a ≤ c) && decide (c ≤ b)) || inL r c
  | _, _ => false

theorem inL_drop (zs : List Int) (k : Nat) (c : Int) (h : k + 1 < zs.length) : inL (zs.drop k) c = ((decide (zs.getD k 0 ≤ c) && decide (c ≤ zs.getD (k + 1) 0)) || inL (zs.drop (k + 2)) c) := by
  rw [List.drop_eq_getElem_cons (by omega : k < zs.length), List.drop_eq_getElem_cons (by omega : k + 1 < zs.length), inL]
  simp [List.getD, List.getElem?_eq_getElem h, List.getElem?_eq_getElem (show k < zs.length by omega)]
theorem inL_end (zs : List Int) (k : Nat) (c : Int) (h : ¬ k + 1 < zs.length) : inL (zs.drop k) c = false := by
  have hl : (zs.drop k).length ≤ 1 := by rw [List.length_drop]; omega
  match hm : zs.drop k, hl with
  | [], _ => rfl
  | [_], _ => rfl
  | _ :: _ :: _, h2 => simp at h2

set_option maxHeartbeats 1000000 in
theorem in_any (b n cap : Nat) (zs : List Int) (c : Int) (w : World) (hz : zs.length = n) (hn : n < 4611686018427387904) (hc : ∀ j, j < n → w.cell? ⟨b, j, none⟩ = some (.int .i64 (zs.getD j 0))) :
    Calls Tryd.prog 46 #[.int .i64 c, .slice (some ⟨b, 0, none⟩) n cap] w fun e w' => e = .returned (.bool (inL zs c)) ∧ w = w' := by
  obtain ⟨A, hA⟩ : ∃ A, inL zs c = A := ⟨_, rfl⟩
  rw [hA]
  have HA := Lib.hid hA
  have Hz := Lib.hid hz
  have Hc := Lib.hid hc
  clear hA hz hc
  go_enter Tryd.func46, Tryd.ntmps46
  go_wp2
  go_loop [5] (fun s => ∃ k : Nat, s = .int .i64 k ∧ k ≤ n + 1 ∧ Hid (inL (zs.drop k) c = A)) (fun s => n + 1 - (intOf s).toNat)
  case atStart => exact ⟨0, rfl, by omega, HA.out⟩
  case round =>
    obtain ⟨k, rfl, hk, HI⟩ := hrel
    by_cases hlt : k + 1 < n
    · have hltz : (k : Int) + 1 < n := by omega
      have c1 := Hc.out k (by omega)
      have c2 := Hc.out (k + 1) hlt
      have hst := inL_drop zs k c (by rw [Hz.out]; exact hlt)
      rw [HI.out] at hst
      obtain ⟨x, hx⟩ : ∃ x, zs.getD k 0 = x := ⟨_, rfl⟩
      obtain ⟨y, hy⟩ : ∃ y, zs.getD (k + 1) 0 = y := ⟨_, rfl⟩
      rw [hx] at c1 hst
      rw [hy] at c2 hst
      have HS := Lib.hid hst
      clear hst hx hy HI HA
      by_cases h1 : x ≤ c
      · by_cases h2 : c ≤ y
        · have hA1 : A = true := by rw [HS.out]; simp [h1, h2]
          clear HS
          subst hA1
          go_wp2
          go_ret
          exact ⟨rfl, rfl⟩
        · have hI : Hid (inL (zs.drop (k + 2)) c = A) := by show _ = _; rw [HS.out]; simp [h2]
          clear HS
          go_wp2
          go_round
          case rel => exact ⟨k + 2, by go_num, by omega, hI⟩
          case measure => simp [intOf]; omega
      · have hI : Hid (inL (zs.drop (k + 2)) c = A) := by show _ = _; rw [HS.out]; simp [h1]
        clear HS
        go_wp2
        go_round
        case rel => exact ⟨k + 2, by go_num, by omega, hI⟩
        case measure => simp [intOf]; omega
    · have hltz : ¬ (k : Int) + 1 < n := by omega
      have hA1 : A = false := by rw [← HI.out]; exact inL_end zs k c (by rw [Hz.out]; exact hlt)
      clear HI HA
      subst hA1
      go_wp2
      go_ret
      exact ⟨rfl, rfl⟩

set_option maxHeartbeats 400000 in
theorem ref_is_any (c : Int) (w : World) :
    Calls Tryd.prog 31 #[.int .i64 c] w fun e w' => e = .returned (.bool (isZ c)) ∧ w = w' := by
  by_cases a0 : 0 ≤ c
  · by_cases a1 : c ≤ 1114111
    · by_cases a2 : c < 55296
      · have hz : isZ c = true := by simp [isZ]; omega
        rw [hz]
        clear hz
        go_enter Tryd.func31, Tryd.ntmps31
        go_wp2
        go_ret
        exact ⟨rfl, rfl⟩
      · by_cases a3 : 57343 < c
        · have hz : isZ c = true := by simp [isZ]; omega
          rw [hz]
          clear hz
          go_enter Tryd.func31, Tryd.ntmps31
          go_wp2
          go_ret
          exact ⟨rfl, rfl⟩
        · have hz : isZ c = false := by simp [isZ]; omega
          rw [hz]
          clear hz
          go_enter Tryd.func31, Tryd.ntmps31
          go_wp2
          go_ret
          exact ⟨rfl, rfl⟩
    · have hz : isZ c = false := by simp [isZ]; omega
      rw [hz]
      clear hz
      go_enter Tryd.func31, Tryd.ntmps31
      go_wp2
      go_ret
      exact ⟨rfl, rfl⟩
  · have hz : isZ c = false := by simp [isZ]; omega
    rw [hz]
    clear hz
    go_enter Tryd.func31, Tryd.ntmps31
    go_wp2
    go_ret
    exact ⟨rfl, rfl⟩


set_option maxHeartbeats 1000000 in
theorem small_any (c : Int) (w : World) (hlo : -9223372036854775808 ≤ c) (hhi : c ≤ 9223372036854775807) :
    Calls Tryd.prog 47 #[.int .i64 c] w fun e w' => e = .returned (.tuple #[.int .i64 (upZ c), .bool (upZ c != c)]) ∧ w = w' := by
  rcases up_cases c with ⟨g1, g2, hu⟩ | ⟨g1, g2, hu⟩ | ⟨g1, g2, hu⟩ | ⟨g1, g2, hu⟩ | ⟨g1, hu⟩ | ⟨g1, g2, hu⟩ | ⟨g1, g2, hu⟩ | ⟨g1, g2, hu⟩ | ⟨g1, g2, g3, g4, g5, hu⟩
  · have hne : (upZ c != c) = true := by rw [hu]; simp; omega
    rw [hne, hu]
    have n1 : (c != 247) = true := by simp; omega
    have n2 : (c == 962) = false := by simp; omega
    have n3 : (c != 962) = true := by simp; omega
    clear hu hne
    go_enter Tryd.func47, Tryd.ntmps47
    go_wp2
    go_ret2
    exact ⟨rfl, rfl⟩
  · have hne : (upZ c != c) = true := by rw [hu]; simp; omega
    rw [hne, hu]
    have n1 : (c != 247) = true := by simp; omega
    have n2 : (c == 962) = false := by simp; omega
    have n3 : (c != 962) = true := by simp; omega
    clear hu hne
    go_enter Tryd.func47, Tryd.ntmps47
    go_wp2
    go_ret2
    exact ⟨rfl, rfl⟩
  · have hne : (upZ c != c) = true := by rw [hu]; simp; omega
    rw [hne, hu]
    have n1 : (c != 247) = true := by simp; omega
    have n2 : (c == 962) = false := by simp; omega
    have n3 : (c != 962) = true := by simp; omega
    clear hu hne
    go_enter Tryd.func47, Tryd.ntmps47
    go_wp2
    go_ret2
    exact ⟨rfl, rfl⟩
  · have hne : (upZ c != c) = true := by rw [hu]; simp; omega
    rw [hne, hu]
    have n1 : (c != 247) = true := by simp; omega
    have n2 : (c == 962) = false := by simp; omega
    have n3 : (c != 962) = true := by simp; omega
    clear hu hne
    go_enter Tryd.func47, Tryd.ntmps47
    go_wp2
    go_ret2
    exact ⟨rfl, rfl⟩
  · have hne : (upZ c != c) = true := by rw [hu]; simp; omega
    rw [hne, hu]
    subst g1
    clear hu hne
    go_enter Tryd.func47, Tryd.ntmps47
    go_wp2
    go_ret2
    exact ⟨rfl, rfl⟩
  · have hne : (upZ c != c) = true := by rw [hu]; simp; omega
    rw [hne, hu]
    have n1 : (c != 247) = true := by simp; omega
    have n2 : (c == 962) = false := by simp; omega
    have n3 : (c != 962) = true := by simp; omega
    clear hu hne
    go_enter Tryd.func47, Tryd.ntmps47
    go_wp2
    go_ret2
    exact ⟨rfl, rfl⟩
  · have hne : (upZ c != c) = true := by rw [hu]; simp; omega
    rw [hne, hu]
    have n1 : (c != 247) = true := by simp; omega
    have n2 : (c == 962) = false := by simp; omega
    have n3 : (c != 962) = true := by simp; omega
    clear hu hne
    go_enter Tryd.func47, Tryd.ntmps47
    go_wp2
    go_ret2
    exact ⟨rfl, rfl⟩
  · have hne : (upZ c != c) = true := by rw [hu]; simp; omega
    rw [hne, hu]
    have n1 : (c != 247) = true := by simp; omega
    have n2 : (c == 962) = false := by simp; omega
    have n3 : (c != 962) = true := by simp; omega
    clear hu hne
    go_enter Tryd.func47, Tryd.ntmps47
    go_wp2
    go_ret2
    exact ⟨rfl, rfl⟩
  · have hne : (upZ c != c) = false := by rw [hu]; simp
    rw [hne, hu]
    have n2 : (c == 962) = false := by simp; omega
    have n3 : (c != 962) = true := by simp; omega
    clear hu hne
    by_cases p1 : c < 97
    · go_enter Tryd.func47, Tryd.ntmps47
      go_wp2
      go_ret2
      exact ⟨rfl, rfl⟩
    · by_cases p2 : c < 224
      · go_enter Tryd.func47, Tryd.ntmps47
        go_wp2
        go_ret2
        exact ⟨rfl, rfl⟩
      · by_cases p3 : c ≤ 254
        · have e : c = 247 := by omega
          subst e
          go_enter Tryd.func47, Tryd.ntmps47
          go_wp2
          go_ret2
          exact ⟨rfl, rfl⟩
        · by_cases p4 : c < 945
          · go_enter Tryd.func47, Tryd.ntmps47
            go_wp2
            go_ret2
            exact ⟨rfl, rfl⟩
          · by_cases p5 : c < 1072
            · go_enter Tryd.func47, Tryd.ntmps47
              go_wp2
              go_ret2
              exact ⟨rfl, rfl⟩
            · go_enter Tryd.func47, Tryd.ntmps47
              go_wp2
              go_ret2
              exact ⟨rfl, rfl⟩

theorem ref_up_any (c : Int) (w : World) (hlo : -9223372036854775808 ≤ c) (hhi : c ≤ 9223372036854775807) :
    Calls Tryd.prog 33 #[.int .i64 c] w fun e w' => e = .returned (.int .i64 (upZ c)) ∧ w = w' := by
  have H := Lib.hid (small_any c w hlo hhi)
  generalize (upZ c != c) = b at *
  generalize upZ c = u at *
  go_enter Tryd.func33, Tryd.ntmps33
  go_wp2_with (go_at_call 47; refine H.out.mono ?_; rintro e w' ⟨rfl, rfl⟩)
  go_ret
  exact ⟨rfl, rfl⟩

theorem row_new (w : World) (zs : List Int) (t : TypeId) (j : Nat) (h : j < zs.length) : (w.alloc (.cells (zs.map (Value.int .i64)).toArray t)).cell? ⟨w.heap.size, j, none⟩ = some (.int .i64 (zs.getD j 0)) := by
  rw [World.cell?_alloc_at _ _ _ _ (by simp)]
  simp [List.getD, List.getElem?_eq_getElem h]
theorem cell_more {w : World} {p : Addr} {v : Value} (h : w.cell? p = some v) (o : Obj) : (w.alloc o).cell? p = some v := by
  rw [World.cell?_alloc_lt w o p (World.block_lt_of_cell? _ _ h)]; exact h

theorem down_pick (c : Int) : downZ c = if (upZ (c + 32) != c + 32) = true ∧ upZ (c + 32) = c then c + 32 else if (upZ (c + 80) != c + 80) = true ∧ upZ (c + 80) = c then c + 80 else c := by
  have g1 := up_cases (c + 32)
  have g2 := up_cases (c + 80)
  rcases down_cases c with h | h | h | h | h | h | h | h
  · rw [if_pos ⟨bne_iff_ne.2 (by omega), by omega⟩]; exact h.2.2
  · rw [if_pos ⟨bne_iff_ne.2 (by omega), by omega⟩]; exact h.2.2
  · rw [if_pos ⟨bne_iff_ne.2 (by omega), by omega⟩]; exact h.2.2
  · rw [if_pos ⟨bne_iff_ne.2 (by omega), by omega⟩]; exact h.2.2
  · rw [if_pos ⟨bne_iff_ne.2 (by omega), by omega⟩]; exact h.2.2
  · rw [if_neg (fun k => by have := bne_iff_ne.1 k.1; have := k.2; omega), if_pos ⟨bne_iff_ne.2 (by omega), by omega⟩]; exact h.2.2
  · rw [if_pos ⟨bne_iff_ne.2 (by omega), by omega⟩]; exact h.2.2
  · rw [if_neg (fun k => by have := bne_iff_ne.1 k.1; have := k.2; omega), if_neg (fun k => by have := bne_iff_ne.1 k.1; have := k.2; omega)]; exact h.2.2.2.2.2.2

set_option maxHeartbeats 2000000 in
theorem ref_down_any (c : Int) (w : World) (hlo : -9223372036854775808 ≤ c) (hhi : c ≤ 9223372036854775807) :
    Calls Tryd.prog 34 #[.int .i64 c] w fun e w' => e = .returned (.int .i64 (downZ c)) ∧ Below w.heap.size w w' := by
  by_cases h0 : c < 0
  · have hd : downZ c = c := by rcases down_cases c with h | h | h | h | h | h | h | h <;> omega
    rw [hd]
    clear hd
    go_enter Tryd.func34, Tryd.ntmps34
    go_wp2
    go_ret
    exact ⟨rfl, (Below.refl _ _).alloc (Nat.le_refl _) _⟩
  · by_cases h1 : 1114111 < c
    · have hd : downZ c = c := by rcases down_cases c with h | h | h | h | h | h | h | h <;> omega
      rw [hd]
      clear hd
      go_enter Tryd.func34, Tryd.ntmps34
      go_wp2
      go_ret
      exact ⟨rfl, (Below.refl _ _).alloc (Nat.le_refl _) _⟩
    · have S1 := Lib.hid (fun W => small_any (c + 32) W (by omega) (by omega))
      have S2 := Lib.hid (fun W => small_any (c + 80) W (by omega) (by omega))
      have hd := down_pick c
      generalize downZ c = d at *
      generalize (upZ (c + 32) != c + 32) = b1 at *
      generalize (upZ (c + 80) != c + 80) = b2 at *
      generalize upZ (c + 32) = x1 at *
      generalize upZ (c + 80) = x2 at *
      have HD := Lib.hid hd
      clear hd hlo hhi
      go_enter Tryd.func34, Tryd.ntmps34
      go_wp2
      go_loop [4] (fun s => ∃ k : Nat, s = .int .i64 k ∧ k ≤ 2 ∧ Hid ((0 < k → ¬ (b1 = true ∧ x1 = c)) ∧ (1 < k → ¬ (b2 = true ∧ x2 = c)))) (fun s => 2 - (intOf s).toNat)
      case atStart => exact ⟨0, rfl, by omega, ⟨fun h => absurd h (by omega), fun h => absurd h (by omega)⟩⟩
      case round =>
        obtain ⟨k, rfl, hk, HI⟩ := hrel
        rcases (by omega : k = 0 ∨ k = 1 ∨ k = 2) with rfl | rfl | rfl
        · by_cases hA : b1 = true ∧ x1 = c
          · have hd : d = c + 32 := by rw [HD.out, if_pos hA]
            obtain ⟨rfl, rfl⟩ := hA
            clear HD HI
            subst hd
            go_wp2_with (go_at_call 47; refine (S1.out _).mono ?_; rintro e w' ⟨rfl, rfl⟩)
            go_ret
            exact ⟨rfl, (Below.refl _ _).alloc (Nat.le_refl _) _⟩
          · have hI : Hid ((0 < 1 → ¬ (b1 = true ∧ x1 = c)) ∧ (1 < 1 → ¬ (b2 = true ∧ x2 = c))) := ⟨fun _ => hA, fun h => absurd h (by omega)⟩
            clear HD HI
            cases b1
            · clear hA
              go_wp2_with (go_at_call 47; refine (S1.out _).mono ?_; rintro e w' ⟨rfl, rfl⟩)
              go_round
              case rel => exact ⟨1, rfl, by omega, hI⟩
              case measure => simp [intOf]
            · have hne : (x1 == c) = false := by simpa using hA
              clear hA
              go_wp2_with (go_at_call 47; refine (S1.out _).mono ?_; rintro e w' ⟨rfl, rfl⟩)
              go_round
              case rel => exact ⟨1, rfl, by omega, hI⟩
              case measure => simp [intOf]
        · have hn1 := HI.out.1 (by omega)
          by_cases hA : b2 = true ∧ x2 = c
          · have hd : d = c + 80 := by rw [HD.out, if_neg hn1, if_pos hA]
            obtain ⟨rfl, rfl⟩ := hA
            clear HD HI hn1
            subst hd
            go_wp2_with (go_at_call 47; refine (S2.out _).mono ?_; rintro e w' ⟨rfl, rfl⟩)
            go_ret
            exact ⟨rfl, (Below.refl _ _).alloc (Nat.le_refl _) _⟩
          · have hI : Hid ((0 < 2 → ¬ (b1 = true ∧ x1 = c)) ∧ (1 < 2 → ¬ (b2 = true ∧ x2 = c))) := ⟨fun _ => hn1, fun _ => hA⟩
            clear HD HI hn1
            cases b2
            · clear hA
              go_wp2_with (go_at_call 47; refine (S2.out _).mono ?_; rintro e w' ⟨rfl, rfl⟩)
              go_round
              case rel => exact ⟨2, rfl, by omega, hI⟩
              case measure => simp [intOf]
            · have hne : (x2 == c) = false := by simpa using hA
              clear hA
              go_wp2_with (go_at_call 47; refine (S2.out _).mono ?_; rintro e w' ⟨rfl, rfl⟩)
              go_round
              case rel => exact ⟨2, rfl, by omega, hI⟩
              case measure => simp [intOf]
        · have hd : d = c := by rw [HD.out, if_neg (HI.out.1 (by omega)), if_neg (HI.out.2 (by omega))]
          clear HD HI
          subst hd
          go_wp2
          go_ret
          exact ⟨rfl, (Below.refl _ _).alloc (Nat.le_refl _) _⟩

theorem ref_fold_any (c : Int) (w : World) (hlo : -9223372036854775808 ≤ c) (hhi : c ≤ 9223372036854775807) :
    Calls Tryd.prog 35 #[.int .i64 c] w fun e w' => e = .returned (.int .i64 (foldZ c)) ∧ Below w.heap.size w w' := by
  have hu := up_wf c hlo hhi
  unfold foldZ
  have H1 := Lib.hid (ref_up_any c w hlo hhi)
  have H2 := Lib.hid (fun w' => ref_down_any (upZ c) w' hu.1 hu.2)
  generalize downZ (upZ c) = d at *
  generalize upZ c = u at *
  go_enter Tryd.func35, Tryd.ntmps35
  go_wp2_with (first
    | (go_at_call 33; refine H1.out.mono ?_; rintro e w1 ⟨rfl, rfl⟩)
    | (go_at_call 34; refine (H2.out _).mono ?_; rintro e w2 ⟨rfl, hB2⟩))
  go_ret
  exact ⟨rfl, hB2⟩
end Go.Proofs.YtagcfgonajogcaaDoor.RefChars
