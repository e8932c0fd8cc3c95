/- Plain mathematics of UTF-8: the characters of a list of bytes, one decoding step after the other. -/
import Derived.Lib.ValidLaws
import Derived.Lib.MapLaws
import Derived.Lib.RuneCount
import Derived.Lib.RuneBytes
namespace Go.Proofs.YtcdlfgggmigcnaaDoor.Utf
open Go.Lib

def runesF : Nat → List UInt8 → List Int
  | 0, _ => []
  | n + 1, l => if l = [] then [] else ((decodeL l).1 : Int) :: runesF n (l.drop (decodeL l).2)
/-- The characters of a list of bytes. -/
def runes (l : List UInt8) : List Int := runesF l.length l

theorem runesF_nil : ∀ n, runesF n [] = []
  | 0 => rfl
  | _ + 1 => by simp [runesF]
theorem runesF_fuel : ∀ (n m : Nat) (l : List UInt8), l.length ≤ n → l.length ≤ m → runesF n l = runesF m l
  | 0, m, l, hn, _ => by
    have : l = [] := List.eq_nil_of_length_eq_zero (by omega)
    subst this
    rw [runesF_nil, runesF_nil]
  | n + 1, 0, l, _, hm => by
    have : l = [] := List.eq_nil_of_length_eq_zero (by omega)
    subst this
    rw [runesF_nil, runesF_nil]
  | n + 1, m + 1, l, hn, hm => by
    unfold runesF
    by_cases hne : l = []
    · simp [hne]
    · have hw := decodeL_width l
      have hl : 0 < l.length := List.length_pos_iff.2 hne
      rw [if_neg hne, if_neg hne, runesF_fuel n m (l.drop (decodeL l).2) (by rw [List.length_drop]; omega) (by rw [List.length_drop]; omega)]
theorem runes_nil : runes [] = [] := rfl
theorem runes_step (l : List UInt8) (hne : l ≠ []) : runes l = ((decodeL l).1 : Int) :: runes (l.drop (decodeL l).2) := by
  have hl : 0 < l.length := List.length_pos_iff.2 hne
  have hw := decodeL_width l
  obtain ⟨n, hn⟩ : ∃ n, l.length = n + 1 := ⟨l.length - 1, by omega⟩
  unfold runes
  rw [hn]
  show (if l = [] then [] else _) = _
  rw [if_neg hne, runesF_fuel n (l.drop (decodeL l).2).length _ (by rw [List.length_drop]; omega) (Nat.le_refl _)]

theorem runes_le : ∀ (n : Nat) (l : List UInt8), l.length ≤ n → (runes l).length ≤ l.length
  | 0, l, h => by
    have : l = [] := List.eq_nil_of_length_eq_zero (by omega)
    subst this
    simp [runes_nil]
  | n + 1, l, h => by
    by_cases hne : l = []
    · subst hne; simp [runes_nil]
    · have hl : 0 < l.length := List.length_pos_iff.2 hne
      have hw := decodeL_width l
      have ih := runes_le n (l.drop (decodeL l).2) (by rw [List.length_drop]; omega)
      rw [runes_step l hne, List.length_cons]
      rw [List.length_drop] at ih
      omega
theorem runes_length (l : List UInt8) : (runes l).length ≤ l.length := runes_le l.length l (Nat.le_refl _)

/-- The bytes of a string from a place on. -/
def from_ (s : ByteArray) (pos : Nat) : List UInt8 := s.data.toList.drop pos

theorem from_zero (s : ByteArray) : from_ s 0 = s.data.toList := rfl
theorem from_ne (s : ByteArray) (pos : Nat) (h : pos < s.size) : from_ s pos ≠ [] := by
  unfold from_
  intro e
  have := congrArg List.length e
  simp at this
  have : s.data.size = s.size := rfl
  omega
theorem from_end (s : ByteArray) (pos : Nat) (h : ¬ pos < s.size) : from_ s pos = [] := by
  unfold from_
  apply List.drop_eq_nil_of_le
  simp
  have : s.data.size = s.size := rfl
  omega
theorem from_decode (s : ByteArray) (pos : Nat) : decodeL (from_ s pos) = Utf8.decode s pos := decodeL_drop s pos
theorem from_drop (s : ByteArray) (pos k : Nat) : (from_ s pos).drop k = from_ s (pos + k) := by unfold from_; rw [List.drop_drop]
theorem runes_from (s : ByteArray) (pos : Nat) (h : pos < s.size) : runes (from_ s pos) = ((Utf8.decode s pos).1 : Int) :: runes (from_ s (pos + (Utf8.decode s pos).2)) := by
  rw [runes_step _ (from_ne s pos h), from_decode, from_drop]
theorem runes_from_end (s : ByteArray) (pos : Nat) (h : ¬ pos < s.size) : runes (from_ s pos) = [] := by rw [from_end s pos h]; rfl

theorem runeCountFrom_eq (s : ByteArray) : ∀ (fuel pos : Nat), s.size ≤ pos + fuel → runeCountFrom s fuel pos = (runes (from_ s pos)).length
  | 0, pos, h => by rw [runes_from_end s pos (by omega)]; rfl
  | fuel + 1, pos, h => by
    unfold runeCountFrom
    by_cases hp : pos < s.size
    · have hw := decode_width_pos s pos hp
      rw [if_pos hp, runeCountFrom_eq s fuel _ (by omega), runes_from s pos hp, List.length_cons]
      omega
    · rw [if_neg hp, runes_from_end s pos hp]; rfl
theorem runeCount_eq (s : ByteArray) : runeCount s = (runes s.data.toList).length := by
  unfold runeCount
  rw [runeCountFrom_eq s s.size 0 (by omega), from_zero]

/-- A character. -/
def isC (c : Int) : Prop := 0 ≤ c ∧ c ≤ 1114111 ∧ (c < 55296 ∨ 57343 < c)

end Go.Proofs.YtcdlfgggmigcnaaDoor.Utf
