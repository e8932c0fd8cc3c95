/- RunesFolds: the walk of the law. -/
import Derived.Test.YtagcfgonajogcaaDoorGives
namespace Go.Proofs.YtagcfgonajogcaaDoor.LawFolds
open Go.RowKit Go.Shelf Go.Lib
open Go.Proofs.YtagcfgonajogcaaDoor.Chars Go.Proofs.YtagcfgonajogcaaDoor.Strs Go.Proofs.YtagcfgonajogcaaDoor.Give

set_option maxHeartbeats 1000000 in
theorem walk_yes (c u d f wd : Int) (b : Bool) (w : World) (h0 : 0 ≤ wd) (h2 : wd ≤ 2)
    (L : Gives w 10 #[] (.bool true))
    (Uc : Gives w 16 #[.int .i64 c] (.int .i64 u)) (Uu : Gives w 16 #[.int .i64 u] (.int .i64 u))
    (Dc : Gives w 18 #[.int .i64 c] (.int .i64 d)) (Dd : Gives w 18 #[.int .i64 d] (.int .i64 d))
    (Fc : Gives w 17 #[.int .i64 c] (.int .i64 f)) (Ff : Gives w 17 #[.int .i64 f] (.int .i64 f)) (Fu : Gives w 17 #[.int .i64 u] (.int .i64 f)) (Fd : Gives w 17 #[.int .i64 d] (.int .i64 f))
    (Wc : Gives w 15 #[.int .i64 c] (.int .i64 wd)) (Wu : Gives w 15 #[.int .i64 u] (.int .i64 wd)) (Wd : Gives w 15 #[.int .i64 d] (.int .i64 wd))
    (Ic : Gives w 21 #[.int .i64 c] (.bool true)) (Iu : Gives w 21 #[.int .i64 u] (.bool true)) (Id : Gives w 21 #[.int .i64 d] (.bool true))
    (Oc : Gives w 19 #[.int .i64 c] (.bool b)) (Ou : Gives w 19 #[.int .i64 u] (.bool b)) (Od : Gives w 19 #[.int .i64 d] (.bool b)) :
    Calls Tryd.prog 9 #[.int .i64 c] w fun e w' => e = .returned (.bool true) ∧ Below w.heap.size w w' := by
  have hb0 := Below.refl w.heap.size w
  go_enter Tryd.func9, Tryd.ntmps9
  go_wp2_with (fail)
  refine (L.out _ hb0).mono ?_
  rintro e w1 ⟨rfl, hb1⟩
  clear hb0
  go_wp2_with (fail)
  refine (Uc.out _ hb1).mono ?_
  rintro e w2 ⟨rfl, hb2⟩
  clear hb1
  go_wp2_with (fail)
  refine (Dc.out _ hb2).mono ?_
  rintro e w3 ⟨rfl, hb3⟩
  clear hb2
  go_wp2_with (fail)
  refine (Fc.out _ hb3).mono ?_
  rintro e w4 ⟨rfl, hb4⟩
  clear hb3
  go_wp2_with (fail)
  refine (Wc.out _ hb4).mono ?_
  rintro e w5 ⟨rfl, hb5⟩
  clear hb4
  go_wp2_with (fail)
  refine (Ic.out _ hb5).mono ?_
  rintro e w6 ⟨rfl, hb6⟩
  clear hb5
  go_wp2_with (fail)
  refine (Uu.out _ hb6).mono ?_
  rintro e w7 ⟨rfl, hb7⟩
  clear hb6
  go_wp2_with (fail)
  refine (Dd.out _ hb7).mono ?_
  rintro e w8 ⟨rfl, hb8⟩
  clear hb7
  go_wp2_with (fail)
  refine (Ff.out _ hb8).mono ?_
  rintro e w9 ⟨rfl, hb9⟩
  clear hb8
  go_wp2_with (fail)
  refine (Fu.out _ hb9).mono ?_
  rintro e w10 ⟨rfl, hb10⟩
  clear hb9
  go_wp2_with (fail)
  refine (Fd.out _ hb10).mono ?_
  rintro e w11 ⟨rfl, hb11⟩
  clear hb10
  go_wp2_with (fail)
  refine (Iu.out _ hb11).mono ?_
  rintro e w12 ⟨rfl, hb12⟩
  clear hb11
  go_wp2_with (fail)
  refine (Id.out _ hb12).mono ?_
  rintro e w13 ⟨rfl, hb13⟩
  clear hb12
  go_wp2_with (fail)
  refine (Ou.out _ hb13).mono ?_
  rintro e w14 ⟨rfl, hb14⟩
  clear hb13
  go_wp2_with (fail)
  refine (Oc.out _ hb14).mono ?_
  rintro e w15 ⟨rfl, hb15⟩
  clear hb14
  go_wp2_with (fail)
  refine (Od.out _ hb15).mono ?_
  rintro e w16 ⟨rfl, hb16⟩
  clear hb15
  go_wp2_with (fail)
  refine (Oc.out _ hb16).mono ?_
  rintro e w17 ⟨rfl, hb17⟩
  clear hb16
  go_wp2_with (fail)
  refine (Wu.out _ hb17).mono ?_
  rintro e w18 ⟨rfl, hb18⟩
  clear hb17
  go_wp2_with (fail)
  refine (Wd.out _ hb18).mono ?_
  rintro e w19 ⟨rfl, hb19⟩
  clear hb18
  go_wp2_with (fail)
  go_ret
  exact ⟨rfl, hb19⟩

set_option maxHeartbeats 1000000 in
theorem walk_no (c : Int) (w : World)
    (L : Gives w 10 #[] (.bool true))
    (Uc : Gives w 16 #[.int .i64 c] (.int .i64 c)) (Dc : Gives w 18 #[.int .i64 c] (.int .i64 c)) (Fc : Gives w 17 #[.int .i64 c] (.int .i64 c))
    (Wc : Gives w 15 #[.int .i64 c] (.int .i64 0)) (Ic : Gives w 21 #[.int .i64 c] (.bool false)) (Oc : Gives w 19 #[.int .i64 c] (.bool false)) :
    Calls Tryd.prog 9 #[.int .i64 c] w fun e w' => e = .returned (.bool true) ∧ Below w.heap.size w w' := by
  have hb0 := Below.refl w.heap.size w
  go_enter Tryd.func9, Tryd.ntmps9
  go_wp2_with (fail)
  refine (L.out _ hb0).mono ?_
  rintro e w1 ⟨rfl, hb1⟩
  clear hb0
  go_wp2_with (fail)
  refine (Uc.out _ hb1).mono ?_
  rintro e w2 ⟨rfl, hb2⟩
  clear hb1
  go_wp2_with (fail)
  refine (Dc.out _ hb2).mono ?_
  rintro e w3 ⟨rfl, hb3⟩
  clear hb2
  go_wp2_with (fail)
  refine (Fc.out _ hb3).mono ?_
  rintro e w4 ⟨rfl, hb4⟩
  clear hb3
  go_wp2_with (fail)
  refine (Wc.out _ hb4).mono ?_
  rintro e w5 ⟨rfl, hb5⟩
  clear hb4
  go_wp2_with (fail)
  refine (Ic.out _ hb5).mono ?_
  rintro e w6 ⟨rfl, hb6⟩
  clear hb5
  go_wp2_with (fail)
  refine (Oc.out _ hb6).mono ?_
  rintro e w7 ⟨rfl, hb7⟩
  clear hb6
  go_wp2_with (fail)
  go_ret
  exact ⟨rfl, hb7⟩

theorem walk (c : Int) (w : World) (h0 : -9223372036854775808 ≤ c) (h1 : c ≤ 9223372036854775807) (hT : Tabs w) :
    Calls Tryd.prog 9 #[.int .i64 c] w fun e w' => e = .returned (.bool true) ∧ Below w.heap.size w w' := by
  have hu := up_wf c h0 h1
  have hd := down_wf c h0 h1
  have hf := down_wf (upZ c) hu.1 hu.2
  have L := lives_gives w hT
  have Uc : Gives w _ _ _ := gives fun W => up_any c W h0 h1
  have Dc : Gives w _ _ _ := gives fun W => down_any c W h0 h1
  have Fc : Gives w _ _ _ := gives fun W => fold_any c W h0 h1
  have Wc : Gives w _ _ _ := gives fun W => width_any c W
  have Oc : Gives w _ _ _ := gives fun W => word_any c W
  have Ic := is_gives w c
  cases hi : isZ c
  · rw [up_no c hi] at Uc
    rw [down_no c hi] at Dc
    rw [fold_no c hi] at Fc
    rw [width_no c hi] at Wc
    rw [word_no c hi] at Oc
    rw [hi] at Ic
    exact walk_no c w L Uc Dc Fc Wc Ic Oc
  · have Uu : Gives w _ _ _ := gives fun W => up_any (upZ c) W hu.1 hu.2
    have Dd : Gives w _ _ _ := gives fun W => down_any (downZ c) W hd.1 hd.2
    have Ff : Gives w _ _ _ := gives fun W => fold_any (foldZ c) W hf.1 hf.2
    have Fu : Gives w _ _ _ := gives fun W => fold_any (upZ c) W hu.1 hu.2
    have Fd : Gives w _ _ _ := gives fun W => fold_any (downZ c) W hd.1 hd.2
    have Wu : Gives w _ _ _ := gives fun W => width_any (upZ c) W
    have Wd : Gives w _ _ _ := gives fun W => width_any (downZ c) W
    have Ou : Gives w _ _ _ := gives fun W => word_any (upZ c) W
    have Od : Gives w _ _ _ := gives fun W => word_any (downZ c) W
    have Iu := is_gives w (upZ c)
    have Id := is_gives w (downZ c)
    rw [up_up] at Uu
    rw [down_down] at Dd
    rw [fold_fold] at Ff
    rw [fold_up] at Fu
    rw [fold_down] at Fd
    rw [up_width] at Wu
    rw [down_width] at Wd
    rw [up_word] at Ou
    rw [down_word] at Od
    rw [up_is c hi] at Iu
    rw [down_is c hi] at Id
    rw [hi] at Ic
    have hw := width_range c
    exact walk_yes c (upZ c) (downZ c) (foldZ c) (widthZ c) (wordZ c) w hw.1 hw.2 L Uc Uu Dc Dd Fc Ff Fu Fd Wc Wu Wd Ic Iu Id Oc Ou Od
end Go.Proofs.YtagcfgonajogcaaDoor.LawFolds
