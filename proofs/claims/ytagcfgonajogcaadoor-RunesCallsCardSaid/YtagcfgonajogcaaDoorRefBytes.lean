/- The contract of the reference's bytes. -/
import Derived.Test.YtagcfgonajogcaaDoorRefList
import Derived.Lib.RuneBytes
namespace Go.Proofs.YtagcfgonajogcaaDoor.RefStrs
open Go.RowKit Go.Shelf Go.Lib
open Go.Proofs.YtagcfgonajogcaaDoor.Utf Go.Proofs.YtagcfgonajogcaaDoor.Strs Go.Proofs.YtagcfgonajogcaaDoor.Cuts Go.Proofs.YtagcfgonajogcaaDoor.RefChars Go.Proofs.YtagcfgonajogcaaDoor.Chars Go.Proofs.YtagcfgonajogcaaDoor.Lst Go.Proofs.YtagcfgonajogcaaDoor.LawBack

set_option maxHeartbeats 1000000 in
theorem bytes_any (c : Int) (w : World) (hc : isC c) :
    Calls Tryd.prog 44 #[.int .i64 c] w fun e w' => e = .returned (.slice (some ⟨w.heap.size, 0, none⟩) (runeCells c).length (runeCells c).length) ∧ w' = w.alloc (.cells (runeCells c).toArray 5) := by
  obtain ⟨h0, h1, h2⟩ := hc
  unfold runeCells
  by_cases a1 : c < 128
  · rw [encodeRuneZ_one h0 (by omega)]
    clear h2
    go_enter Tryd.func44, Tryd.ntmps44
    go_wp2_with (fail)
    go_ret
    exact ⟨rfl, rfl⟩
  · by_cases a2 : c < 2048
    · rw [encodeRuneZ_two (by omega) (by omega)]
      clear h2
      go_enter Tryd.func44, Tryd.ntmps44
      go_wp2_with (fail)
      go_ret
      exact ⟨rfl, rfl⟩
    · by_cases a3 : c < 65536
      · rw [encodeRuneZ_three (by omega)]
        clear h2
        go_enter Tryd.func44, Tryd.ntmps44
        go_wp2_with (fail)
        go_ret
        exact ⟨rfl, rfl⟩
      · rw [encodeRuneZ_four (by omega) (by omega)]
        clear h2
        go_enter Tryd.func44, Tryd.ntmps44
        go_wp2_with (fail)
        go_ret
        exact ⟨rfl, rfl⟩
end Go.Proofs.YtagcfgonajogcaaDoor.RefStrs
