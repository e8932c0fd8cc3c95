/- The contract of the example that each statement of layer 1 asks first. -/
import Derived.Test.YtagcfgonajogcaaDoorStrs
namespace Go.Proofs.YtagcfgonajogcaaDoor.Strs
open Go.RowKit Go.Shelf Go.Lib
open Go.Proofs.YtagcfgonajogcaaDoor.Utf

theorem at_ae : atL [97, 195, 169] 1 = (233, true) := by decide +kernel
theorem len_ae : lenL [97, 195, 169] = 2 := by decide +kernel

theorem lives_any (w : World) (hT : Tabs w) :
    Calls Tryd.prog 10 #[] w fun e w' => e = .returned (.bool true) ∧ Below w.heap.size w w' := by
  have h1 := at_any ⟨#[97, 195, 169]⟩ 1 w (by decide) hT
  rw [show atL (ByteArray.mk #[97, 195, 169]).data.toList 1 = (233, true) from at_ae] at h1
  have h2 := fun w1 (hb : Below w.heap.size w w1) => len_any ⟨#[97, 195, 169]⟩ w1 (by decide) (hT.below hb)
  rw [show lenL (ByteArray.mk #[97, 195, 169]).data.toList = 2 from len_ae] at h2
  have H1 := Lib.hid h1
  have H2 := Lib.hid h2
  clear h1 h2 hT
  go_enter Tryd.func10, Tryd.ntmps10
  go_wp2_with (first
    | (go_at_call 14; refine H1.out.mono ?_; rintro e w1 ⟨rfl, hb1⟩)
    | (go_at_call 28; refine (H2.out _ (by assumption)).mono ?_; rintro e w2 ⟨rfl, hb2⟩))
  go_ret
  exact ⟨rfl, hb1.trans (hb2.mono hb1.size)⟩
end Go.Proofs.YtagcfgonajogcaaDoor.Strs
