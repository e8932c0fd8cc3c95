/- The contracts of runes.Valid, Len and At. -/
import Derived.Test.YtagcfgonajogcaaDoorFind
import Derived.Test.YtagcfgonajogcaaDoorLaws
import Derived.Test.YtagcfgonajogcaaDoorUtf
import Derived.Laws.RangeString
import Derived.Laws.RangeAny
import Derived.LoopTactic
namespace Go.Proofs.YtagcfgonajogcaaDoor.Strs
open Go.RowKit Go.Shelf Go.Lib
open Go.Proofs.YtagcfgonajogcaaDoor.Utf

/-- The two tables of package utf8 hold what their text lays. -/
def Tabs (w : World) : Prop := Lib.Utf8Tabs (Tryd.laysValid_ren.g 3) (Tryd.laysValid_ren.g 4) w

theorem Tabs.below {w w' : World} (h : Tabs w) (hb : Below w.heap.size w w') : Tabs w' := Utf8Tabs_below h hb

theorem valid_any (s : ByteArray) (w : World) (hs : s.size ≤ 9223372036854775807) (hT : Tabs w) :
    Calls Tryd.prog 20 #[.string s] w fun e w' => e = .returned (.bool (validD s.data.toList)) ∧ Below w.heap.size w w' := by
  have cV : Calls Tryd.prog 43 #[.string s] w _ := Any.utf8_ValidString Tryd.laysValid s w hs hT
  generalize validD s.data.toList = V at cV ⊢
  have H := Lib.hid cV
  clear cV
  go_enter Tryd.func20, Tryd.ntmps20
  go_wp2_with (go_at_call 43; refine H.out.mono ?_; rintro e w' ⟨rfl, hb⟩)
  go_ret
  exact ⟨rfl, hb⟩

/-- The number of characters of a string, 0 if it is not valid. -/
def lenL (l : List UInt8) : Nat := if validD l = true then (runes l).length else 0

theorem len_any (s : ByteArray) (w : World) (hs : s.size < 9223372036854775807) (hT : Tabs w) :
    Calls Tryd.prog 28 #[.string s] w fun e w' => e = .returned (.int .i64 (lenL s.data.toList)) ∧ Below w.heap.size w w' := by
  have HV := Lib.hid (valid_any s w (by omega) hT)
  have HC := Lib.hid (fun w' => Tryd.utf8_RuneCountInString s w' hs)
  unfold lenL
  rw [← runeCount_eq]
  generalize validD s.data.toList = V at *
  cases V
  · rw [if_neg (by simp)]
    go_enter Tryd.func28, Tryd.ntmps28
    go_wp2_with (go_at_call 20; refine HV.out.mono ?_; rintro e w' ⟨rfl, hb⟩)
    go_ret
    exact ⟨rfl, hb⟩
  · rw [if_pos rfl]
    go_enter Tryd.func28, Tryd.ntmps28
    go_wp2_with (first
      | (go_at_call 20; refine HV.out.mono ?_; rintro e w1 ⟨rfl, hb⟩)
      | (go_at_call 41; refine (HC.out _).mono ?_; rintro e w2 ⟨rfl, pos, rfl⟩))
    go_ret
    exact ⟨rfl, hb.alloc hb.size _⟩

/-- The character at an index of a list, if there is one. -/
def nthL (r : List Int) (i : Int) : Int × Bool := if 0 ≤ i then (match r[i.toNat]? with | some c => (c, true) | none => (0, false)) else (0, false)
/-- The character at an index of a string, if there is one. -/
def atL (l : List UInt8) (i : Int) : Int × Bool := if validD l = true then nthL (runes l) i else (0, false)

theorem nthL_hit (r : List Int) (k : Nat) (c : Int) (rest : List Int) (h : r.drop k = c :: rest) : nthL r (k : Int) = (c, true) := by
  have : r[k]? = some c := by rw [← List.head?_drop, h]; rfl
  simp [nthL, this]
theorem nthL_miss (r : List Int) (k : Nat) (i : Int) (h : r.drop k = []) (hi : i < 0 ∨ k ≤ i) : nthL r i = (0, false) := by
  unfold nthL
  by_cases h0 : 0 ≤ i
  · have hk : r.length ≤ k := by simpa using h
    rw [if_pos h0, List.getElem?_eq_none (by omega)]
  · rw [if_neg h0]

set_option maxHeartbeats 1000000 in
theorem at_any (s : ByteArray) (i : Int) (w : World) (hs : s.size < 9223372036854775807) (hT : Tabs w) :
    Calls Tryd.prog 14 #[.string s, .int .i64 i] w fun e w' => e = .returned (.tuple #[.int .i64 (atL s.data.toList i).1, .bool (atL s.data.toList i).2]) ∧ Below w.heap.size w w' := by
  have HV := Lib.hid (valid_any s w (by omega) hT)
  clear hT
  unfold atL
  generalize validD s.data.toList = V at *
  cases V
  · rw [if_neg (by simp)]
    go_enter Tryd.func14, Tryd.ntmps14
    go_wp2_with (go_at_call 20; refine HV.out.mono ?_; rintro e w' ⟨rfl, hb⟩)
    go_ret2
    exact ⟨rfl, hb⟩
  · rw [if_pos rfl]
    obtain ⟨R, hR⟩ : ∃ R, runes s.data.toList = R := ⟨_, rfl⟩
    obtain ⟨⟨A1, A2⟩, hA⟩ : ∃ A, nthL (runes s.data.toList) i = A := ⟨_, rfl⟩
    rw [hA]
    have HA := Lib.hid hA
    clear hA
    have hR0 : runes (from_ s 0) = R := hR
    rw [hR] at HA
    have HR0 := Lib.hid hR0
    clear hR hR0
    go_enter Tryd.func14, Tryd.ntmps14
    go_wp2_with (go_at_call 20; refine HV.out.mono ?_; rintro e w1 ⟨rfl, hb⟩)
    clear HV
    go_loopw [6] (fun ix wr => ∃ (pos k : Nat), wr = w1.iter s pos ∧ ix = .int .i64 k ∧ k ≤ pos ∧ Hid (runes (from_ s pos) = R.drop k) ∧ (i < 0 ∨ (k : Int) ≤ i)) (fun _ wr => s.size - wr.iterPos w1.heap.size)
    case atStart => exact ⟨0, 0, rfl, rfl, Nat.le_refl _, by rw [HR0.out]; rfl, by omega⟩
    case round =>
      obtain ⟨pos, k, rfl, rfl, hkp, HI, hik⟩ := hrel
      by_cases hp : pos < s.size
      · have hnx : ∀ ty, (Instr.next (.pointer (some ⟨w1.heap.size, 0, none⟩)) true ty).run Tryd.prog (w1.iter s pos) = _ := fun ty => run_next_any w1 s pos ty hp
        have hwd := decode_width_pos s pos hp
        have hle := decode_le s pos
        have HS := Lib.hid (runes_from s pos hp)
        have HD := HI.out
        rw [HS.out] at HD
        have hks : (k : Int) + 1 ≤ 9223372036854775807 := by omega
        by_cases hki : (k : Int) = i
        · have hAv : (A1, A2) = (((Utf8.decode s pos).1 : Int), true) := by rw [← HA.out, ← hki]; exact nthL_hit R k _ _ HD.symm
          injection hAv with hA1 hA2
          clear HA HI HS HD HR0 hik
          subst hki
          generalize Utf8.decode s pos = D at *
          obtain ⟨d, dw⟩ := D
          have hdle : (d : Int) ≤ 2147483647 := by have : d ≤ 2147483647 := hle; omega
          clear hle
          have HA1 := Lib.hid hA1
          have HA2 := Lib.hid hA2
          clear hA1 hA2
          go_wp2
          go_ret2
          exact ⟨by rw [HA1.out, HA2.out]; rfl, hb.alloc hb.size _⟩
        · have hne : ((k : Int) == i) = false := by simpa using hki
          have hrel' : Hid (runes (from_ s (pos + (Utf8.decode s pos).2)) = R.drop (k + 1)) := by
            show _ = _
            rw [← List.tail_drop, ← HD]
            rfl
          clear HA HI HS HD HR0
          generalize Utf8.decode s pos = D at *
          obtain ⟨d, dw⟩ := D
          have hdle : (d : Int) ≤ 2147483647 := by have : d ≤ 2147483647 := hle; omega
          clear hle
          have hwd' : 1 ≤ dw := hwd
          go_wp2
          go_roundw
          case rel => exact ⟨pos + dw, k + 1, rfl, by go_num, by omega, hrel', by omega⟩
          case measure => simp; omega
      · have hnx : ∀ ty, (Instr.next (.pointer (some ⟨w1.heap.size, 0, none⟩)) true ty).run Tryd.prog (w1.iter s pos) = _ := fun ty => run_next_end w1 s pos ty hp
        have hAv : (A1, A2) = (0, false) := by
          rw [← HA.out]
          have HD := HI.out
          rw [runes_from_end s pos hp] at HD
          exact nthL_miss R k i HD.symm hik
        injection hAv with hA1 hA2
        have HA1 := Lib.hid hA1
        have HA2 := Lib.hid hA2
        clear HA HI HR0 hA1 hA2
        go_wp2
        go_ret2
        exact ⟨by rw [HA1.out, HA2.out]; rfl, hb.alloc hb.size _⟩
end Go.Proofs.YtagcfgonajogcaaDoor.Strs
