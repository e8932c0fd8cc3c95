/- RunesNames: the walk of the law. -/
import Derived.Test.YtagcfgonajogcaaDoorLawBack
import Derived.Test.YtagcfgonajogcaaDoorLawCuts2
namespace Go.Proofs.YtagcfgonajogcaaDoor.LawNames
open Go.RowKit Go.Shelf Go.Lib
open Go.Proofs.YtagcfgonajogcaaDoor.Utf Go.Proofs.YtagcfgonajogcaaDoor.Strs Go.Proofs.YtagcfgonajogcaaDoor.Lst Go.Proofs.YtagcfgonajogcaaDoor.Chars Go.Proofs.YtagcfgonajogcaaDoor.Give Go.Proofs.YtagcfgonajogcaaDoor.Txt Go.Proofs.YtagcfgonajogcaaDoor.LawBack Go.Proofs.YtagcfgonajogcaaDoor.Cuts Go.Proofs.YtagcfgonajogcaaDoor.LawCuts2

theorem one_reads (w : World) (c : Int) : IntSl (w.alloc (.cells #[.int .i64 c] 3)) (.slice (some ⟨w.heap.size, 0, none⟩) 1 1) [c] :=
  ⟨_, 1, rfl, Nat.le_refl _, fun _ => ⟨w.heap.size, 0, rfl, fun j hj => by
    obtain rfl : j = 0 := by simp at hj; exact hj
    rw [World.cell?_alloc_at _ _ _ _ (by simp)]
    rfl⟩⟩

set_option maxRecDepth 100000 in
set_option maxHeartbeats 2000000 in
theorem core (w : World)
    (L : Gives w 10 #[] (.bool true))
    (C1 : Gives w 11 #[.string ⟨#[97, 98, 99]⟩, .int .i64 1, .int .i64 2] (.tuple #[.string ⟨#[98]⟩, .int .i64 0]))
    (C2 : Gives w 11 #[.string ⟨#[97, 98, 99]⟩, .int .i64 2, .int .i64 1] (.tuple #[.string ⟨#[]⟩, .int .i64 3]))
    (LI : Gives w 13 #[.string ⟨#[192, 128]⟩] (.tuple #[.slice none 0 0, .int .i64 5]))
    (AT : Gives w 14 #[.string ⟨#[97]⟩, .int .i64 1] (.tuple #[.int .i64 0, .bool false]))
    (W1 : Gives w 15 #[.int .i64 1] (.int .i64 2))
    (W2 : Gives w 15 #[.int .i64 9] (.int .i64 1))
    (W3 : Gives w 15 #[.int .i64 769] (.int .i64 0))
    (W4 : Gives w 15 #[.int .i64 19968] (.int .i64 2))
    (UP : Gives w 16 #[.int .i64 962] (.int .i64 931))
    (FO : Gives w 17 #[.int .i64 962] (.int .i64 963))
    (DO : Gives w 18 #[.int .i64 65] (.int .i64 97))
    (O1 : Gives w 19 #[.int .i64 55] (.bool true))
    (O2 : Gives w 19 #[.int .i64 45] (.bool false))
    (VA : Gives w 20 #[.string ⟨#[237, 160, 128]⟩] (.bool false))
    (IS : Gives w 21 #[.int .i64 (-1)] (.bool false)) :
    Calls Tryd.prog 3 #[] w fun e w' => e = .returned (.bool true) ∧ Below w.heap.size w w' := by
  have hb0 := Below.refl w.heap.size w
  go_enter Tryd.func3, Tryd.ntmps3
  go_wp2_with (fail)
  refine (L.out _ hb0).mono ?_
  rintro e w1 ⟨rfl, hb1⟩
  clear hb0
  go_wp2_with (fail)
  refine (C1.out _ hb1).mono ?_
  rintro e w2 ⟨rfl, hb2⟩
  clear hb1
  go_wp2_with (fail)
  refine (C2.out _ hb2).mono ?_
  rintro e w3 ⟨rfl, hb3⟩
  clear hb2
  go_wp2_with (fail)
  refine (text_bad _ [55296] _ (one_reads w3 55296) (by simp) (by simp [isC])).mono ?_
  rintro e w4 ⟨rfl, hbt⟩
  have hb4 : Below w.heap.size w w4 := (hb3.alloc hb3.size _).trans (hbt.mono (by have := hb3.size; simp; omega))
  clear hb3 hbt
  go_wp2_with (fail)
  refine (LI.out _ hb4).mono ?_
  rintro e w5 ⟨rfl, hb5⟩
  clear hb4
  go_wp2_with (fail)
  refine (AT.out _ hb5).mono ?_
  rintro e w6 ⟨rfl, hb6⟩
  clear hb5
  go_wp2_with (fail)
  refine (W1.out _ hb6).mono ?_
  rintro e w7 ⟨rfl, hb7⟩
  clear hb6
  go_wp2_with (fail)
  refine (W2.out _ hb7).mono ?_
  rintro e w8 ⟨rfl, hb8⟩
  clear hb7
  go_wp2_with (fail)
  refine (W3.out _ hb8).mono ?_
  rintro e w9 ⟨rfl, hb9⟩
  clear hb8
  go_wp2_with (fail)
  refine (W4.out _ hb9).mono ?_
  rintro e w10 ⟨rfl, hb10⟩
  clear hb9
  go_wp2_with (fail)
  refine (UP.out _ hb10).mono ?_
  rintro e w11 ⟨rfl, hb11⟩
  clear hb10
  go_wp2_with (fail)
  refine (FO.out _ hb11).mono ?_
  rintro e w12 ⟨rfl, hb12⟩
  clear hb11
  go_wp2_with (fail)
  refine (DO.out _ hb12).mono ?_
  rintro e w13 ⟨rfl, hb13⟩
  clear hb12
  go_wp2_with (fail)
  refine (O1.out _ hb13).mono ?_
  rintro e w14 ⟨rfl, hb14⟩
  clear hb13
  go_wp2_with (fail)
  refine (O2.out _ hb14).mono ?_
  rintro e w15 ⟨rfl, hb15⟩
  clear hb14
  go_wp2_with (fail)
  refine (VA.out _ hb15).mono ?_
  rintro e w16 ⟨rfl, hb16⟩
  clear hb15
  go_wp2_with (fail)
  refine (IS.out _ hb16).mono ?_
  rintro e w17 ⟨rfl, hb17⟩
  clear hb16
  go_wp2_with (fail)
  go_ret
  exact ⟨rfl, hb17⟩

theorem walk (w : World) (hT : Tabs w) : Calls Tryd.prog 3 #[] w fun e w' => e = .returned (.bool true) ∧ Below w.heap.size w w' := by
  have habc : validD (ByteArray.mk #[97, 98, 99]).data.toList = true := by decide +kernel
  have hrun : runes (ByteArray.mk #[97, 98, 99]).data.toList = [97, 98, 99] := by decide +kernel
  refine core w (lives_gives w hT) ?_ ?_ ?_ ?_ (gives fun W => ?_) (gives fun W => ?_) (gives fun W => ?_) (gives fun W => ?_) (gives fun W => ?_) (gives fun W => ?_) (gives fun W => ?_) (gives fun W => ?_) (gives fun W => ?_) ?_ ?_
  · have h := cut_gives ⟨#[97, 98, 99]⟩ 1 2 w (by decide) hT habc (by omega) (by rw [hrun]; decide)
    rw [hrun, show strOf (enc ((([97, 98, 99] : List Int).drop 1).take (2 - 1))) = ⟨#[98]⟩ by decide +kernel] at h
    exact h
  · exact gives_tab hT fun W hTW => cut_range ⟨#[97, 98, 99]⟩ 2 1 W (by decide) hTW habc (.inr (.inl (by omega)))
  · exact gives_tab hT fun W hTW => list_no ⟨#[192, 128]⟩ W (by decide) hTW (by decide +kernel)
  · have h : Gives w 14 #[.string ⟨#[97]⟩, .int .i64 1] _ := gives_tab hT fun W hTW => at_any ⟨#[97]⟩ 1 W (by decide) hTW
    rw [show atL (ByteArray.mk #[97]).data.toList 1 = (0, false) by decide +kernel] at h
    exact h
  · rw [← show widthZ 1 = 2 by decide +kernel]; exact width_any 1 W
  · rw [← show widthZ 9 = 1 by decide +kernel]; exact width_any 9 W
  · rw [← show widthZ 769 = 0 by decide +kernel]; exact width_any 769 W
  · rw [← show widthZ 19968 = 2 by decide +kernel]; exact width_any 19968 W
  · rw [← show upZ 962 = 931 by decide +kernel]; exact up_any 962 W (by omega) (by omega)
  · rw [← show foldZ 962 = 963 by decide +kernel]; exact fold_any 962 W (by omega) (by omega)
  · rw [← show downZ 65 = 97 by decide +kernel]; exact down_any 65 W (by omega) (by omega)
  · rw [← show wordZ 55 = true by decide +kernel]; exact word_any 55 W
  · rw [← show wordZ 45 = false by decide +kernel]; exact word_any 45 W
  · have h : Gives w 20 #[.string ⟨#[237, 160, 128]⟩] _ := gives_tab hT fun W hTW => valid_any ⟨#[237, 160, 128]⟩ W (by decide) hTW
    rw [show validD (ByteArray.mk #[237, 160, 128]).data.toList = false by decide +kernel] at h
    exact h
  · rw [← show isZ (-1) = false by decide +kernel]; exact is_gives w (-1)
end Go.Proofs.YtagcfgonajogcaaDoor.LawNames
