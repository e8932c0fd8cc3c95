/- RunesChars: the walk of the law. -/
import Derived.Test.YtagcfgonajogcaaDoorGives
import Derived.Test.YtagcfgonajogcaaDoorRefChars2
namespace Go.Proofs.YtagcfgonajogcaaDoor.LawChars
open Go.RowKit Go.Shelf Go.Lib
open Go.Proofs.YtagcfgonajogcaaDoor.Chars Go.Proofs.YtagcfgonajogcaaDoor.Strs Go.Proofs.YtagcfgonajogcaaDoor.Give Go.Proofs.YtagcfgonajogcaaDoor.RefChars

set_option maxHeartbeats 1000000 in
theorem walk_all (c u d f wd : Int) (i o : Bool) (w : World)
    (L : Gives w 10 #[] (.bool true))
    (IsP : Gives w 21 #[.int .i64 c] (.bool i))
    (IsR : Gives w 31 #[.int .i64 c] (.bool i))
    (WiP : Gives w 15 #[.int .i64 c] (.int .i64 wd))
    (WiR : Gives w 32 #[.int .i64 c] (.int .i64 wd))
    (UpP : Gives w 16 #[.int .i64 c] (.int .i64 u))
    (UpR : Gives w 33 #[.int .i64 c] (.int .i64 u))
    (DoP : Gives w 18 #[.int .i64 c] (.int .i64 d))
    (DoR : Gives w 34 #[.int .i64 c] (.int .i64 d))
    (FoP : Gives w 17 #[.int .i64 c] (.int .i64 f))
    (FoR : Gives w 35 #[.int .i64 c] (.int .i64 f))
    (WoP : Gives w 19 #[.int .i64 c] (.bool o))
    (WoR : Gives w 36 #[.int .i64 c] (.bool o)) :
    Calls Tryd.prog 5 #[.int .i64 c] w fun e w' => e = .returned (.bool true) ∧ Below w.heap.size w w' := by
  have hb0 := Below.refl w.heap.size w
  go_enter Tryd.func5, Tryd.ntmps5
  go_wp2_with (fail)
  refine (L.out _ hb0).mono ?_
  rintro e w1 ⟨rfl, hb1⟩
  clear hb0
  go_wp2_with (fail)
  refine (IsP.out _ hb1).mono ?_
  rintro e w2 ⟨rfl, hb2⟩
  clear hb1
  go_wp2_with (fail)
  refine (IsR.out _ hb2).mono ?_
  rintro e w3 ⟨rfl, hb3⟩
  clear hb2
  go_wp2_with (fail)
  refine (WiP.out _ hb3).mono ?_
  rintro e w4 ⟨rfl, hb4⟩
  clear hb3
  go_wp2_with (fail)
  refine (WiR.out _ hb4).mono ?_
  rintro e w5 ⟨rfl, hb5⟩
  clear hb4
  go_wp2_with (fail)
  refine (UpP.out _ hb5).mono ?_
  rintro e w6 ⟨rfl, hb6⟩
  clear hb5
  go_wp2_with (fail)
  refine (UpR.out _ hb6).mono ?_
  rintro e w7 ⟨rfl, hb7⟩
  clear hb6
  go_wp2_with (fail)
  refine (DoP.out _ hb7).mono ?_
  rintro e w8 ⟨rfl, hb8⟩
  clear hb7
  go_wp2_with (fail)
  refine (DoR.out _ hb8).mono ?_
  rintro e w9 ⟨rfl, hb9⟩
  clear hb8
  go_wp2_with (fail)
  refine (FoP.out _ hb9).mono ?_
  rintro e w10 ⟨rfl, hb10⟩
  clear hb9
  go_wp2_with (fail)
  refine (FoR.out _ hb10).mono ?_
  rintro e w11 ⟨rfl, hb11⟩
  clear hb10
  go_wp2_with (fail)
  refine (WoP.out _ hb11).mono ?_
  rintro e w12 ⟨rfl, hb12⟩
  clear hb11
  go_wp2_with (fail)
  refine (WoR.out _ hb12).mono ?_
  rintro e w13 ⟨rfl, hb13⟩
  clear hb12
  go_wp2_with (fail)
  go_ret
  exact ⟨rfl, hb13⟩

theorem walk (c : Int) (w : World) (h0 : -9223372036854775808 ≤ c) (h1 : c ≤ 9223372036854775807) (hT : Tabs w) :
    Calls Tryd.prog 5 #[.int .i64 c] w fun e w' => e = .returned (.bool true) ∧ Below w.heap.size w w' :=
  walk_all c (upZ c) (downZ c) (foldZ c) (widthZ c) (isZ c) (wordZ c) w (lives_gives w hT) (is_gives w c) (gives_same fun W => ref_is_any c W) (gives fun W => width_any c W) (gives fun W => ref_width_any c W)
    (gives fun W => up_any c W h0 h1) (gives_same fun W => ref_up_any c W h0 h1) (gives fun W => down_any c W h0 h1) (gives fun W => ref_down_any c W h0 h1) (gives fun W => fold_any c W h0 h1) (gives fun W => ref_fold_any c W h0 h1)
    (gives fun W => word_any c W) (gives fun W => ref_word_any c W)
end Go.Proofs.YtagcfgonajogcaaDoor.LawChars
