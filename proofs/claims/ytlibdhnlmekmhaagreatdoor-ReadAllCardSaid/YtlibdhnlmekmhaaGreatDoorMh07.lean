/- The contracts of runes.offset and runes.Cut. -/
import Derived.Test.YtlibdhnlmekmhaaGreatDoorMh02
import Derived.Test.YtlibdhnlmekmhaaGreatDoorMh03
namespace Go.Proofs.YtlibdhnlmekmhaaGreatDoor.Cuts
set_option maxRecDepth 100000
open Go.RowKit Go.Shelf Go.Lib
open Go.Proofs.YtlibdhnlmekmhaaGreatDoor.Utf Go.Proofs.YtlibdhnlmekmhaaGreatDoor.Strs

/-- Where in the encoding of a list the character at an index begins. -/
def place (R : List Int) (k : Nat) : Nat := (enc (R.take k)).length
theorem place_zero (R : List Int) : place R 0 = 0 := rfl
theorem place_succ (R : List Int) (k : Nat) (c : Int) (h : R[k]? = some c) : place R (k + 1) = place R k + (encodeRune c).length := by
  unfold place
  rw [List.take_add_one, h, enc_append, List.length_append]
  simp [enc]
theorem drop_place (R : List Int) (k : Nat) : (enc R).drop (place R k) = enc (R.drop k) := by
  have h : enc R = enc (R.take k) ++ enc (R.drop k) := by rw [← enc_append, List.take_append_drop]
  unfold place
  rw [h, List.drop_left]
theorem place_le (R : List Int) (k : Nat) : place R k ≤ (enc R).length := by
  conv => rhs; rw [← List.take_append_drop k R, enc_append, List.length_append]
  unfold place
  omega
theorem place_all (R : List Int) (k : Nat) (h : R.length ≤ k) : place R k = (enc R).length := by
  unfold place
  rw [List.take_of_length_le h]
theorem le_place (R : List Int) (k : Nat) (h : k ≤ R.length) : k ≤ place R k := by
  induction k with
  | zero => exact Nat.zero_le _
  | succ k ih =>
    have := ih (by omega)
    have h1 : R[k]? = some R[k] := List.getElem?_eq_getElem (by omega)
    rw [place_succ R k _ h1]
    have := (encode_length R[k]).1
    omega

theorem decode_place (s : ByteArray) (R : List Int) (hR : s.data.toList = enc R) (hC : ∀ c ∈ R, isC c) (k : Nat) (c : Int) (h : R[k]? = some c) : Utf8.decode s (place R k) = (c.toNat, (encodeRune c).length) := by
  rw [← from_decode]
  unfold from_
  rw [hR, drop_place]
  have hd : R.drop k = c :: R.drop (k + 1) := by
    obtain ⟨hk, rfl⟩ := List.getElem?_eq_some_iff.1 h
    exact List.drop_eq_getElem_cons hk
  rw [hd, enc_cons]
  exact decode_encode c (hC c (List.mem_of_getElem? h)) _

theorem take_list (s : ByteArray) (k : Nat) : (s.extract 0 k).data.toList = s.data.toList.take k := by
  rw [ByteArray.data_extract, Array.toList_extract]
  simp [List.extract_eq_take_drop]
theorem size_list (s : ByteArray) : s.data.toList.length = s.size := by simp

/-- What Cut leaves of a part that there is. -/
def CutsTo (w : World) (l : List Int) (e : Ending) (w' : World) : Prop := ∃ t : ByteArray, e = .returned (.tuple #[.string t, .int .i64 0]) ∧ t.data.toList = enc l ∧ Below w.heap.size w w'

end Go.Proofs.YtlibdhnlmekmhaaGreatDoor.Cuts
