/- The contract of the reference's bytes. | The contract of copyistkit.Own at integers. -/
import Derived.Lib.RuneBytes
import Derived.Test.YtlibdhnlmekmhaaGreatDoorMh13
/- The contract of the reference's bytes. -/
section
namespace Go.Proofs.YtlibdhnlmekmhaaGreatDoor.RefStrs
set_option maxRecDepth 100000
open Go.RowKit Go.Shelf Go.Lib
open Go.Proofs.YtlibdhnlmekmhaaGreatDoor.Utf Go.Proofs.YtlibdhnlmekmhaaGreatDoor.Strs Go.Proofs.YtlibdhnlmekmhaaGreatDoor.Cuts Go.Proofs.YtlibdhnlmekmhaaGreatDoor.RefChars Go.Proofs.YtlibdhnlmekmhaaGreatDoor.Chars Go.Proofs.YtlibdhnlmekmhaaGreatDoor.Lst Go.Proofs.YtlibdhnlmekmhaaGreatDoor.LawBack

set_option maxHeartbeats 1000000 in
theorem bytes_any (c : Int) (w : World) (hc : isC c) :
    Calls Tryz.prog 74 #[.int .i64 c] w fun e w' => e = .returned (.slice (some ⟨w.heap.size, 0, none⟩) (runeCells c).length (runeCells c).length) ∧ w' = w.alloc (.cells (runeCells c).toArray 5) := by
  obtain ⟨h0, h1, h2⟩ := hc
  unfold runeCells
  by_cases a1 : c < 128
  · rw [encodeRuneZ_one h0 (by omega)]
    clear h2
    go_enter Tryz.func74, Tryz.ntmps74
    go_wp2_with (fail)
    go_ret
    exact ⟨rfl, rfl⟩
  · by_cases a2 : c < 2048
    · rw [encodeRuneZ_two (by omega) (by omega)]
      clear h2
      go_enter Tryz.func74, Tryz.ntmps74
      go_wp2_with (fail)
      go_ret
      exact ⟨rfl, rfl⟩
    · by_cases a3 : c < 65536
      · rw [encodeRuneZ_three (by omega)]
        clear h2
        go_enter Tryz.func74, Tryz.ntmps74
        go_wp2_with (fail)
        go_ret
        exact ⟨rfl, rfl⟩
      · rw [encodeRuneZ_four (by omega) (by omega)]
        clear h2
        go_enter Tryz.func74, Tryz.ntmps74
        go_wp2_with (fail)
        go_ret
        exact ⟨rfl, rfl⟩
end Go.Proofs.YtlibdhnlmekmhaaGreatDoor.RefStrs
end

/- The contract of copyistkit.Own at integers. -/
section
namespace Go.Proofs.YtlibdhnlmekmhaaGreatDoor.RefStrs
set_option maxRecDepth 100000
open Go.RowKit Go.Shelf Go.Lib
open Go.Proofs.YtlibdhnlmekmhaaGreatDoor.Utf Go.Proofs.YtlibdhnlmekmhaaGreatDoor.Strs Go.Proofs.YtlibdhnlmekmhaaGreatDoor.Cuts Go.Proofs.YtlibdhnlmekmhaaGreatDoor.RefChars Go.Proofs.YtlibdhnlmekmhaaGreatDoor.Chars Go.Proofs.YtlibdhnlmekmhaaGreatDoor.Lst Go.Proofs.YtlibdhnlmekmhaaGreatDoor.LawBack

theorem none_reads (w : World) (A : Option Addr) : IntSl w (.slice A 0 0) [] := ⟨A, 0, rfl, Nat.le_refl _, fun h => absurd h (by simp)⟩
theorem own_empty (w : World) : (w.alloc (.cells #[] 3)).ownsRow w.heap.size 3 1 (.slice (some ⟨w.heap.size, 0, none⟩) 0 0) 0 [] :=
  ⟨by simp, .inr ⟨_, 0, #[], rfl, Nat.le_refl _, heap_alloc_new w _, Nat.le_refl _, Nat.zero_le _, rfl, rfl⟩⟩

end Go.Proofs.YtlibdhnlmekmhaaGreatDoor.RefStrs
end
