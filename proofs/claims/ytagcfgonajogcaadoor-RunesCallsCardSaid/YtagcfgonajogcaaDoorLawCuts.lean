/- RunesCuts: the walk of the law. -/
import Derived.Test.YtagcfgonajogcaaDoorCut
import Derived.Test.YtagcfgonajogcaaDoorGives
import Derived.Test.YtagcfgonajogcaaDoorPick
namespace Go.Proofs.YtagcfgonajogcaaDoor.LawCuts
open Go.RowKit Go.Shelf Go.Lib
open Go.Proofs.YtagcfgonajogcaaDoor.Utf Go.Proofs.YtagcfgonajogcaaDoor.Strs Go.Proofs.YtagcfgonajogcaaDoor.Cuts Go.Proofs.YtagcfgonajogcaaDoor.Give Go.Proofs.YtagcfgonajogcaaDoor.Pick Go.Proofs.YtagcfgonajogcaaDoor.Laws

set_option maxRecDepth 100000 in
set_option maxHeartbeats 1000000 in
theorem long_s (s : ByteArray) (i j k : Int) (w : World) (hs : s.size ≤ maxLen) (h : 2000 < s.size) (L : Gives w 10 #[] (.bool true)) :
    Calls Tryd.prog 7 #[.string s, .int .i64 i, .int .i64 j, .int .i64 k] w fun e w' => e = .returned (.bool true) ∧ Below w.heap.size w w' := by
  unfold maxLen at hs
  have hz : (2000 : Int) < s.size := by omega
  have hb0 := Below.refl w.heap.size w
  go_enter Tryd.func7, Tryd.ntmps7
  go_wp2_with (fail)
  refine (L.out _ hb0).mono ?_
  rintro e w1 ⟨rfl, hb1⟩
  clear hb0
  go_wp2_with (fail)
  go_ret
  exact ⟨rfl, hb1⟩

set_option maxRecDepth 100000 in
set_option maxHeartbeats 1000000 in
theorem bad_s (s : ByteArray) (i j k : Int) (w : World) (hs : s.size ≤ 2000) (L : Gives w 10 #[] (.bool true)) (N : Gives w 28 #[.string s] (.int .i64 0))
    (Pi : Gives w 37 #[.int .i64 i, .int .i64 1] (.int .i64 0)) (Pj : Gives w 37 #[.int .i64 j, .int .i64 1] (.int .i64 0))
    (C : Gives w 11 #[.string s, .int .i64 0, .int .i64 0] (.tuple #[.string ⟨#[]⟩, .int .i64 5])) (V : Gives w 20 #[.string s] (.bool false)) :
    Calls Tryd.prog 7 #[.string s, .int .i64 i, .int .i64 j, .int .i64 k] w fun e w' => e = .returned (.bool true) ∧ Below w.heap.size w w' := by
  have hz : ¬ (2000 : Int) < s.size := by omega
  have hb0 := Below.refl w.heap.size w
  go_enter Tryd.func7, Tryd.ntmps7
  go_wp2_with (fail)
  refine (L.out _ hb0).mono ?_
  rintro e w1 ⟨rfl, hb1⟩
  clear hb0
  go_wp2_with (fail)
  refine (N.out _ hb1).mono ?_
  rintro e w2 ⟨rfl, hb2⟩
  clear hb1
  go_wp2_with (fail)
  refine (Pi.out _ hb2).mono ?_
  rintro e w3 ⟨rfl, hb3⟩
  clear hb2
  go_wp2_with (fail)
  refine (Pj.out _ hb3).mono ?_
  rintro e w4 ⟨rfl, hb4⟩
  clear hb3
  go_wp2_with (fail)
  refine (C.out _ hb4).mono ?_
  rintro e w5 ⟨rfl, hb5⟩
  clear hb4
  go_wp2_with (fail)
  refine (C.out _ hb5).mono ?_
  rintro e w6 ⟨rfl, hb6⟩
  clear hb5
  go_wp2_with (fail)
  refine (C.out _ hb6).mono ?_
  rintro e w7 ⟨rfl, hb7⟩
  clear hb6
  go_wp2_with (fail)
  refine (V.out _ hb7).mono ?_
  rintro e w8 ⟨rfl, hb8⟩
  clear hb7
  go_wp2_with (fail)
  go_ret
  exact ⟨rfl, hb8⟩

set_option maxRecDepth 100000 in
set_option maxHeartbeats 4000000 in
theorem good (s X Y Z : ByteArray) (i j k : Int) (n pa pb a b m : Nat) (c d : Int) (is was : Bool) (w : World) (hs : s.size ≤ 2000) (hn : n ≤ 2000) (hab : a ≤ b) (hbn : b ≤ n) (hmn : m ≤ n)
    (hsw : (pb < pa ∧ a = pb ∧ b = pa) ∨ (pa ≤ pb ∧ a = pa ∧ b = pb))
    (hat : (m < a ∧ is = true ∧ was = false) ∨ (a ≤ m ∧ m < b ∧ is = true ∧ was = true ∧ c = d) ∨ (b ≤ m ∧ m < n ∧ is = true ∧ was = false) ∨ (m = n ∧ is = false ∧ was = false))
    (hxyz : X ++ Y ++ Z = s) (hX : X.size ≤ 2000) (hY : Y.size ≤ 2000) (hZ : Z.size ≤ 2000) (hXY : (X ++ Y).size ≤ 4000)
    (L : Gives w 10 #[] (.bool true)) (N : Gives w 28 #[.string s] (.int .i64 n))
    (Pi : Gives w 37 #[.int .i64 i, .int .i64 ((n : Int) + 1)] (.int .i64 pa)) (Pj : Gives w 37 #[.int .i64 j, .int .i64 ((n : Int) + 1)] (.int .i64 pb))
    (CX : Gives w 11 #[.string s, .int .i64 0, .int .i64 a] (.tuple #[.string X, .int .i64 0])) (CY : Gives w 11 #[.string s, .int .i64 a, .int .i64 b] (.tuple #[.string Y, .int .i64 0])) (CZ : Gives w 11 #[.string s, .int .i64 b, .int .i64 n] (.tuple #[.string Z, .int .i64 0]))
    (V : Gives w 20 #[.string s] (.bool true)) (Pk : Gives w 37 #[.int .i64 k, .int .i64 ((n : Int) + 1)] (.int .i64 m))
    (As : Gives w 14 #[.string s, .int .i64 m] (.tuple #[.int .i64 c, .bool is])) (Ay : Gives w 14 #[.string Y, .int .i64 ((m : Int) - a)] (.tuple #[.int .i64 d, .bool was]))
    (LX : Gives w 28 #[.string X] (.int .i64 a)) (LY : Gives w 28 #[.string Y] (.int .i64 ((b : Int) - a))) (LZ : Gives w 28 #[.string Z] (.int .i64 ((n : Int) - b))) :
    Calls Tryd.prog 7 #[.string s, .int .i64 i, .int .i64 j, .int .i64 k] w fun e w' => e = .returned (.bool true) ∧ Below w.heap.size w w' := by
  have hz : ¬ (2000 : Int) < s.size := by omega
  have hb0 := Below.refl w.heap.size w
  rcases hsw with ⟨h1, rfl, rfl⟩ | ⟨h1, rfl, rfl⟩
  all_goals
    rcases hat with ⟨h2, rfl, rfl⟩ | ⟨h2, h3, rfl, rfl, rfl⟩ | ⟨h2, h3, rfl, rfl⟩ | ⟨rfl, rfl, rfl⟩
    all_goals
      go_enter Tryd.func7, Tryd.ntmps7
      go_wp2_with (fail)
      refine (L.out _ hb0).mono ?_
      rintro e w1 ⟨rfl, hb1⟩
      clear hb0
      go_wp2_with (fail)
      refine (N.out _ hb1).mono ?_
      rintro e w2 ⟨rfl, hb2⟩
      clear hb1
      go_wp2_with (fail)
      refine (Pi.out _ hb2).mono ?_
      rintro e w3 ⟨rfl, hb3⟩
      clear hb2
      go_wp2_with (fail)
      refine (Pj.out _ hb3).mono ?_
      rintro e w4 ⟨rfl, hb4⟩
      clear hb3
      go_wp2_with (fail)
      refine (CX.out _ hb4).mono ?_
      rintro e w5 ⟨rfl, hb5⟩
      clear hb4
      go_wp2_with (fail)
      refine (CY.out _ hb5).mono ?_
      rintro e w6 ⟨rfl, hb6⟩
      clear hb5
      go_wp2_with (fail)
      refine (CZ.out _ hb6).mono ?_
      rintro e w7 ⟨rfl, hb7⟩
      clear hb6
      go_wp2_with (fail)
      refine (V.out _ hb7).mono ?_
      rintro e w8 ⟨rfl, hb8⟩
      clear hb7
      go_wp2_with (fail)
      refine (Pk.out _ hb8).mono ?_
      rintro e w9 ⟨rfl, hb9⟩
      clear hb8
      go_wp2_with (fail)
      refine (As.out _ hb9).mono ?_
      rintro e w10 ⟨rfl, hb10⟩
      clear hb9
      go_wp2_with (fail)
      refine (Ay.out _ hb10).mono ?_
      rintro e w11 ⟨rfl, hb11⟩
      clear hb10
      go_wp2_with (fail)
      refine (LX.out _ hb11).mono ?_
      rintro e w12 ⟨rfl, hb12⟩
      clear hb11
      go_wp2_with (fail)
      refine (LY.out _ hb12).mono ?_
      rintro e w13 ⟨rfl, hb13⟩
      clear hb12
      go_wp2_with (fail)
      refine (LZ.out _ hb13).mono ?_
      rintro e w14 ⟨rfl, hb14⟩
      clear hb13
      go_wp2_with (fail)
      go_ret
      exact ⟨rfl, hb14⟩
end Go.Proofs.YtagcfgonajogcaaDoor.LawCuts
