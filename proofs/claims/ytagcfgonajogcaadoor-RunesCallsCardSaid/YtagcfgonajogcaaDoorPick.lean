/- The contract of copyistkit.Pick: it picks a number below its second argument. -/
import Derived.Test.YtagcfgonajogcaaDoorLaws
import Derived.Test.YtagcfgonajogcaaDoorRows
namespace Go.Proofs.YtagcfgonajogcaaDoor.Pick
open Go.RowKit

/-- The number that is picked. -/
def pickZ (x n : Int) : Int := if n ≤ 0 then 0 else if x.tmod n < 0 then x.tmod n + n else x.tmod n
theorem pick_range (x n : Int) (h : 0 < n) : 0 ≤ pickZ x n ∧ pickZ x n < n := by
  have h1 := Int.tmod_lt_of_pos x h
  have h2 := Int.lt_tmod_of_pos x h
  unfold pickZ
  rw [if_neg (by omega)]
  split <;> omega

set_option maxHeartbeats 1000000 in
theorem pick_any (x n : Int) (w : World) (h : 0 < n) (hn : n ≤ 4611686018427387904) :
    Calls Tryd.prog 37 #[.int .i64 x, .int .i64 n] w fun e w' => e = .returned (.int .i64 (pickZ x n)) ∧ w = w' := by
  have h1 := Int.tmod_lt_of_pos x h
  have h2 := Int.lt_tmod_of_pos x h
  unfold pickZ
  rw [if_neg (by omega)]
  by_cases hneg : x.tmod n < 0
  · rw [if_pos hneg]
    go_enter Tryd.func37, Tryd.ntmps37
    go_wp2
    go_ret
    exact ⟨rfl, rfl⟩
  · rw [if_neg hneg]
    go_enter Tryd.func37, Tryd.ntmps37
    go_wp2
    go_ret
    exact ⟨rfl, rfl⟩
end Go.Proofs.YtagcfgonajogcaaDoor.Pick
