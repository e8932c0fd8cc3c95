/- The contract of runes.Text. -/
import Derived.Test.YtlibdhnlmekmhaaGreatDoorMh02
import Derived.Test.YtlibdhnlmekmhaaGreatDoorMh06
import Derived.Test.YtlibdhnlmekmhaaGreatDoorMh10
import Derived.Test.YtlibdhnlmekmhaaGreatDoorMh11
namespace Go.Proofs.YtlibdhnlmekmhaaGreatDoor.Txt
set_option maxRecDepth 100000
open Go.RowKit Go.Shelf Go.Lib
open Go.Proofs.YtlibdhnlmekmhaaGreatDoor.Utf Go.Proofs.YtlibdhnlmekmhaaGreatDoor.Lst Go.Proofs.YtlibdhnlmekmhaaGreatDoor.Chars Go.Proofs.YtlibdhnlmekmhaaGreatDoor.Build

theorem isZ_isC (c : Int) : isZ c = true ↔ isC c := isZ_iff c
theorem byteCells_append (a b : List UInt8) : byteCells (a ++ b) = byteCells a ++ byteCells b := by simp [byteCells]
theorem byteCells_length (a : List UInt8) : (byteCells a).length = a.length := by simp [byteCells]
theorem enc_le : ∀ (R : List Int), (enc R).length ≤ 4 * R.length
  | [] => by simp [enc]
  | c :: R => by
    have := enc_le R
    have := (encode_length c).2
    rw [enc_cons, List.length_append, List.length_cons]
    omega

/-- What Text leaves of a list of at most 65,536 integers. -/
def TextsTo (w : World) (l : List Int) (e : Ending) (w' : World) : Prop :=
  (((∀ c ∈ l, isC c) ∧ e = .returned (.tuple #[.string (strOf (enc l)), .int .i64 0])) ∨ ((¬ ∀ c ∈ l, isC c) ∧ e = .returned (.tuple #[.string ⟨#[]⟩, .int .i64 3]))) ∧ Below w.heap.size w w'

theorem fresh (w : World) : Lib.IsBuilderF 171 5 w.heap.size w.heap.size [] (w.alloc (.cells #[.pointer none, .slice none 0 0] 171)) :=
  .inl ⟨Nat.le_refl _, .slice none 0 0, heap_alloc_new w _, ⟨by simp, .inl ⟨rfl, rfl⟩⟩, by simp [Value.ownBlock]⟩

end Go.Proofs.YtlibdhnlmekmhaaGreatDoor.Txt
