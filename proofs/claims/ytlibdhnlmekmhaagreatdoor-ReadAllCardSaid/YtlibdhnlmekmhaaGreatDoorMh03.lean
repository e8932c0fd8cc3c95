/- The contracts of runes.Valid and Len. -/
import Derived.Test.YtlibdhnlmekmhaaGreatDoorRows
import Derived.WalkKit
import Derived.WalkSpells
import Derived.WalkLawsBesides
import Derived.Lib.Hide
import Derived.Test.YtlibdhnlmekmhaaGreatDoorMh01
import Derived.Test.YtlibdhnlmekmhaaGreatDoorMh02
namespace Go.Proofs.YtlibdhnlmekmhaaGreatDoor.Strs
open Go.RowKit Go.Shelf Go.Lib
open Go.Proofs.YtlibdhnlmekmhaaGreatDoor.Utf

/-- The two tables of package utf8 hold what their text lays. -/
def Tabs (w : World) : Prop := Lib.Utf8Tabs (Tryz.laysValid_ren.g 3) (Tryz.laysValid_ren.g 4) w

theorem Tabs.below {w w' : World} (h : Tabs w) (hb : Below w.heap.size w w') : Tabs w' := Utf8Tabs_below h hb

theorem valid_any (s : ByteArray) (w : World) (hs : s.size ≤ 9223372036854775807) (hT : Tabs w) :
    Calls Tryz.prog 162 #[.string s] w fun e w' => e = .returned (.bool (validD s.data.toList)) ∧ Below w.heap.size w w' := by
  have cV : Calls Tryz.prog 192 #[.string s] w _ := Any.utf8_ValidString Tryz.laysValid s w hs hT
  generalize validD s.data.toList = V at cV ⊢
  have H := Lib.hid cV
  clear cV
  go_enter Tryz.func162, Tryz.ntmps162
  go_wp2_with (go_at_call 192; refine H.out.mono ?_; rintro e w' ⟨rfl, hb⟩)
  go_ret
  exact ⟨rfl, hb⟩

/-- The number of characters of a string, 0 if it is not valid. -/
def lenL (l : List UInt8) : Nat := if validD l = true then (runes l).length else 0

theorem len_any (s : ByteArray) (w : World) (hs : s.size < 9223372036854775807) (hT : Tabs w) :
    Calls Tryz.prog 200 #[.string s] w fun e w' => e = .returned (.int .i64 (lenL s.data.toList)) ∧ Below w.heap.size w w' := by
  have HV := Lib.hid (valid_any s w (by omega) hT)
  have HC := Lib.hid (fun w' => Tryz.utf8_RuneCountInString s w' hs)
  unfold lenL
  rw [← runeCount_eq]
  generalize validD s.data.toList = V at *
  cases V
  · rw [if_neg (by simp)]
    go_enter Tryz.func200, Tryz.ntmps200
    go_wp2_with (go_at_call 162; refine HV.out.mono ?_; rintro e w' ⟨rfl, hb⟩)
    go_ret
    exact ⟨rfl, hb⟩
  · rw [if_pos rfl]
    go_enter Tryz.func200, Tryz.ntmps200
    go_wp2_with (first
      | (go_at_call 162; refine HV.out.mono ?_; rintro e w1 ⟨rfl, hb⟩)
      | (go_at_call 163; refine (HC.out _).mono ?_; rintro e w2 ⟨rfl, pos, rfl⟩))
    go_ret
    exact ⟨rfl, hb.alloc hb.size _⟩
end Go.Proofs.YtlibdhnlmekmhaaGreatDoor.Strs
