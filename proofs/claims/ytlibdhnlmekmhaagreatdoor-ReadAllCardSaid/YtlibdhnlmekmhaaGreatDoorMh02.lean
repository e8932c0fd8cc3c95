/- Plain mathematics of UTF-8: the characters of a list of bytes, one decoding step after the other. | Plain mathematics of UTF-8: valid strings are the encodings of lists of characters, and the only ones. -/
import Derived.Lib.ValidLaws
import Derived.Lib.MapLaws
import Derived.Lib.RuneCount
import Derived.Lib.RuneBytes
/- Plain mathematics of UTF-8: the characters of a list of bytes, one decoding step after the other. -/
section
namespace Go.Proofs.YtlibdhnlmekmhaaGreatDoor.Utf
open Go.Lib

def runesF : Nat → List UInt8 → List Int
  | 0, _ => []
  | n + 1, l => if l = [] then [] else ((decodeL l).1 : Int) :: runesF n (l.drop (decodeL l).2)
/-- The characters of a list of bytes. -/
def runes (l : List UInt8) : List Int := runesF l.length l

theorem runesF_nil : ∀ n, runesF n [] = []
  | 0 => rfl
  | _ + 1 => by simp [runesF]
theorem runesF_fuel : ∀ (n m : Nat) (l : List UInt8), l.length ≤ n → l.length ≤ m → runesF n l = runesF m l
  | 0, m, l, hn, _ => by
    have : l = [] := List.eq_nil_of_length_eq_zero (by omega)
    subst this
    rw [runesF_nil, runesF_nil]
  | n + 1, 0, l, _, hm => by
    have : l = [] := List.eq_nil_of_length_eq_zero (by omega)
    subst this
    rw [runesF_nil, runesF_nil]
  | n + 1, m + 1, l, hn, hm => by
    unfold runesF
    by_cases hne : l = []
    · simp [hne]
    · have hw := decodeL_width l
      have hl : 0 < l.length := List.length_pos_iff.2 hne
      rw [if_neg hne, if_neg hne, runesF_fuel n m (l.drop (decodeL l).2) (by rw [List.length_drop]; omega) (by rw [List.length_drop]; omega)]
theorem runes_nil : runes [] = [] := rfl
theorem runes_step (l : List UInt8) (hne : l ≠ []) : runes l = ((decodeL l).1 : Int) :: runes (l.drop (decodeL l).2) := by
  have hl : 0 < l.length := List.length_pos_iff.2 hne
  have hw := decodeL_width l
  obtain ⟨n, hn⟩ : ∃ n, l.length = n + 1 := ⟨l.length - 1, by omega⟩
  unfold runes
  rw [hn]
  show (if l = [] then [] else _) = _
  rw [if_neg hne, runesF_fuel n (l.drop (decodeL l).2).length _ (by rw [List.length_drop]; omega) (Nat.le_refl _)]

theorem runes_le : ∀ (n : Nat) (l : List UInt8), l.length ≤ n → (runes l).length ≤ l.length
  | 0, l, h => by
    have : l = [] := List.eq_nil_of_length_eq_zero (by omega)
    subst this
    simp [runes_nil]
  | n + 1, l, h => by
    by_cases hne : l = []
    · subst hne; simp [runes_nil]
    · have hl : 0 < l.length := List.length_pos_iff.2 hne
      have hw := decodeL_width l
      have ih := runes_le n (l.drop (decodeL l).2) (by rw [List.length_drop]; omega)
      rw [runes_step l hne, List.length_cons]
      rw [List.length_drop] at ih
      omega
theorem runes_length (l : List UInt8) : (runes l).length ≤ l.length := runes_le l.length l (Nat.le_refl _)

/-- The bytes of a string from a place on. -/
def from_ (s : ByteArray) (pos : Nat) : List UInt8 := s.data.toList.drop pos

theorem from_zero (s : ByteArray) : from_ s 0 = s.data.toList := rfl
theorem from_ne (s : ByteArray) (pos : Nat) (h : pos < s.size) : from_ s pos ≠ [] := by
  unfold from_
  intro e
  have := congrArg List.length e
  simp at this
  have : s.data.size = s.size := rfl
  omega
theorem from_end (s : ByteArray) (pos : Nat) (h : ¬ pos < s.size) : from_ s pos = [] := by
  unfold from_
  apply List.drop_eq_nil_of_le
  simp
  have : s.data.size = s.size := rfl
  omega
theorem from_decode (s : ByteArray) (pos : Nat) : decodeL (from_ s pos) = Utf8.decode s pos := decodeL_drop s pos
theorem from_drop (s : ByteArray) (pos k : Nat) : (from_ s pos).drop k = from_ s (pos + k) := by unfold from_; rw [List.drop_drop]
theorem runes_from (s : ByteArray) (pos : Nat) (h : pos < s.size) : runes (from_ s pos) = ((Utf8.decode s pos).1 : Int) :: runes (from_ s (pos + (Utf8.decode s pos).2)) := by
  rw [runes_step _ (from_ne s pos h), from_decode, from_drop]
theorem runes_from_end (s : ByteArray) (pos : Nat) (h : ¬ pos < s.size) : runes (from_ s pos) = [] := by rw [from_end s pos h]; rfl

theorem runeCountFrom_eq (s : ByteArray) : ∀ (fuel pos : Nat), s.size ≤ pos + fuel → runeCountFrom s fuel pos = (runes (from_ s pos)).length
  | 0, pos, h => by rw [runes_from_end s pos (by omega)]; rfl
  | fuel + 1, pos, h => by
    unfold runeCountFrom
    by_cases hp : pos < s.size
    · have hw := decode_width_pos s pos hp
      rw [if_pos hp, runeCountFrom_eq s fuel _ (by omega), runes_from s pos hp, List.length_cons]
      omega
    · rw [if_neg hp, runes_from_end s pos hp]; rfl
theorem runeCount_eq (s : ByteArray) : runeCount s = (runes s.data.toList).length := by
  unfold runeCount
  rw [runeCountFrom_eq s s.size 0 (by omega), from_zero]

/-- A character. -/
def isC (c : Int) : Prop := 0 ≤ c ∧ c ≤ 1114111 ∧ (c < 55296 ∨ 57343 < c)

end Go.Proofs.YtlibdhnlmekmhaaGreatDoor.Utf
end

/- Plain mathematics of UTF-8: valid strings are the encodings of lists of characters, and the only ones. -/
section
namespace Go.Proofs.YtlibdhnlmekmhaaGreatDoor.Utf
open Go.Lib

/-- The number of a byte that was made of a number. -/
theorem byte_num (x : Int) (_ : 0 ≤ x) (h1 : x < 256) : (x.toNat.toUInt8).toNat = x.toNat := by
  simp; omega

/-- Decoding an encoded character gives it back, whatever follows. -/
theorem decode_encode (c : Int) (hc : isC c) (rest : List UInt8) : decodeL (encodeRune c ++ rest) = (c.toNat, (encodeRune c).length) := by
  obtain ⟨h0, h1, h2⟩ := hc
  rw [decodeL_N]
  by_cases a : c ≤ 127
  · have e : encodeRune c = [c.toNat.toUInt8] := by simp [encodeRune, encodeRuneZ_one h0 a]
    rw [e]
    have b0 := byte_num c h0 (by omega)
    simp only [List.cons_append, List.nil_append, List.getD_cons_zero, b0]
    rw [decodeN_ascii _ _ _ _ _ (by omega)]
    rfl
  · by_cases b : c ≤ 2047
    · have e : encodeRune c = [(192 + c / 64).toNat.toUInt8, (128 + c % 64).toNat.toUInt8] := by simp [encodeRune, encodeRuneZ_two (by omega : 128 ≤ c) b]
      rw [e]
      have b0 := byte_num (192 + c / 64) (by omega) (by omega)
      have b1 := byte_num (128 + c % 64) (by omega) (by omega)
      simp only [List.cons_append, List.nil_append, List.getD_cons_zero, List.getD_cons_succ, b0, b1, List.length_cons, List.length_nil]
      generalize (rest.getD 0 0).toNat = r0
      generalize (rest.getD 1 0).toNat = r1
      unfold decodeN
      rw [if_neg (by omega), if_pos (by omega), if_pos (by omega)]
      simp; omega
    · by_cases d : c ≤ 65535
      · have e : encodeRune c = [(224 + c / 4096).toNat.toUInt8, (128 + c / 64 % 64).toNat.toUInt8, (128 + c % 64).toNat.toUInt8] := by simp [encodeRune, encodeRuneZ_three (r := c) (by omega)]
        rw [e]
        have b0 := byte_num (224 + c / 4096) (by omega) (by omega)
        have b1 := byte_num (128 + c / 64 % 64) (by omega) (by omega)
        have b2 := byte_num (128 + c % 64) (by omega) (by omega)
        simp only [List.cons_append, List.nil_append, List.getD_cons_zero, List.getD_cons_succ, b0, b1, b2, List.length_cons, List.length_nil]
        generalize (rest.getD 0 0).toNat = r0
        unfold decodeN
        rw [if_neg (by omega), if_neg (by omega), if_pos (by omega), if_pos (by omega)]
        simp; omega
      · have e : encodeRune c = [(240 + c / 262144).toNat.toUInt8, (128 + c / 4096 % 64).toNat.toUInt8, (128 + c / 64 % 64).toNat.toUInt8, (128 + c % 64).toNat.toUInt8] := by simp [encodeRune, encodeRuneZ_four (by omega : 65536 ≤ c) h1]
        rw [e]
        have b0 := byte_num (240 + c / 262144) (by omega) (by omega)
        have b1 := byte_num (128 + c / 4096 % 64) (by omega) (by omega)
        have b2 := byte_num (128 + c / 64 % 64) (by omega) (by omega)
        have b3 := byte_num (128 + c % 64) (by omega) (by omega)
        simp only [List.cons_append, List.nil_append, List.getD_cons_zero, List.getD_cons_succ, b0, b1, b2, b3, List.length_cons, List.length_nil]
        unfold decodeN
        rw [if_neg (by omega), if_neg (by omega), if_neg (by omega), if_pos (by omega), if_pos (by omega)]
        simp; omega

theorem encode_length (c : Int) : 1 ≤ (encodeRune c).length ∧ (encodeRune c).length ≤ 4 := by
  have h := runeCells_le c
  rwa [runeCells_length] at h
theorem encode_ne (c : Int) (rest : List UInt8) : encodeRune c ++ rest ≠ [] := by
  intro h
  have h1 := congrArg List.length h
  have h2 := (encode_length c).1
  rw [List.length_append, List.length_nil] at h1
  omega

/-- The encoding of a list of characters. -/
def enc (R : List Int) : List UInt8 := R.flatMap encodeRune
theorem enc_cons (c : Int) (R : List Int) : enc (c :: R) = encodeRune c ++ enc R := rfl
theorem enc_append (R S : List Int) : enc (R ++ S) = enc R ++ enc S := by simp [enc]

theorem step_ok (c : Int) (hc : isC c) (rest : List UInt8) : ¬ ((decodeL (encodeRune c ++ rest)).1 = 65533 ∧ (decodeL (encodeRune c ++ rest)).2 = 1) := by
  rw [decode_encode c hc]
  rintro ⟨h1, h2⟩
  simp only at h1 h2
  have hz : c = 65533 := by have := hc.1; omega
  subst hz
  revert h2
  decide

theorem valid_enc : ∀ (R : List Int) (rest : List UInt8), (∀ c ∈ R, isC c) → validD (enc R ++ rest) = validD rest
  | [], rest, _ => rfl
  | c :: R, rest, h => by
    have hc := h c (by simp)
    rw [enc_cons, List.append_assoc, validD_step _ (encode_ne c _), if_neg (step_ok c hc _), decode_encode c hc]
    simp only [List.drop_left]
    exact valid_enc R rest (fun x hx => h x (by simp [hx]))
theorem runes_enc : ∀ (R : List Int) (rest : List UInt8), (∀ c ∈ R, isC c) → runes (enc R ++ rest) = R ++ runes rest
  | [], rest, _ => rfl
  | c :: R, rest, h => by
    have hc := h c (by simp)
    rw [enc_cons, List.append_assoc, runes_step _ (encode_ne c _), decode_encode c hc]
    simp only [List.drop_left, List.cons_append]
    rw [runes_enc R rest (fun x hx => h x (by simp [hx]))]
    congr 1
    have := hc.1
    omega

/-- A valid step decodes a character. -/
theorem step_isC (l : List UInt8) (_ : l ≠ []) (hv : ¬ ((decodeL l).1 = 65533 ∧ (decodeL l).2 = 1)) : isC ((decodeL l).1 : Int) := by
  have k0 := (l.getD 0 0).toNat_lt
  have k1 := (l.getD 1 0).toNat_lt
  have k2 := (l.getD 2 0).toNat_lt
  have k3 := (l.getD 3 0).toNat_lt
  rw [decodeL_N] at hv ⊢
  generalize (l.getD 0 0).toNat = b0 at *
  generalize (l.getD 1 0).toNat = b1 at *
  generalize (l.getD 2 0).toNat = b2 at *
  generalize (l.getD 3 0).toNat = b3 at *
  unfold isC
  rcases decodeN_shape l.length b0 b1 b2 b3 with ⟨_, e⟩ | ⟨_, _, _, _, e⟩ | ⟨_, _, _, _, _, _, e⟩ | ⟨_, _, _, _, _, _, _, e⟩ | e
  · rw [e]; simp only; omega
  · rw [e]; simp only; omega
  · rw [e]; simp only; omega
  · rw [e]; simp only; omega
  · rw [e] at hv; exact absurd ⟨rfl, rfl⟩ hv

theorem valid_runes : ∀ (n : Nat) (l : List UInt8), l.length ≤ n → validD l = true → enc (runes l) = l ∧ ∀ c ∈ runes l, isC c
  | 0, l, h, _ => by
    have : l = [] := List.eq_nil_of_length_eq_zero (by omega)
    subst this
    exact ⟨rfl, fun c hc => by simp [runes_nil] at hc⟩
  | n + 1, l, h, hv => by
    by_cases hne : l = []
    · subst hne
      exact ⟨rfl, fun c hc => by simp [runes_nil] at hc⟩
    · rw [validD_step l hne] at hv
      by_cases hb : (decodeL l).1 = 65533 ∧ (decodeL l).2 = 1
      · rw [if_pos hb] at hv; cases hv
      · rw [if_neg hb] at hv
        have hw := decodeL_width l
        have hl : 0 < l.length := List.length_pos_iff.2 hne
        obtain ⟨i1, i2⟩ := valid_runes n (l.drop (decodeL l).2) (by rw [List.length_drop]; omega) hv
        refine ⟨?_, ?_⟩
        · rw [runes_step l hne, enc_cons, i1, encode_decode l hne hb, List.take_append_drop]
        · rw [runes_step l hne]
          intro c hc
          rcases List.mem_cons.1 hc with rfl | hc
          · exact step_isC l hne hb
          · exact i2 c hc
theorem enc_runes (l : List UInt8) (hv : validD l = true) : enc (runes l) = l := (valid_runes l.length l (Nat.le_refl _) hv).1
theorem isC_runes (l : List UInt8) (hv : validD l = true) : ∀ c ∈ runes l, isC c := (valid_runes l.length l (Nat.le_refl _) hv).2

theorem valid_enc_all (R : List Int) (h : ∀ c ∈ R, isC c) : validD (enc R) = true := by
  have := valid_enc R [] h
  rwa [List.append_nil] at this
theorem runes_enc_all (R : List Int) (h : ∀ c ∈ R, isC c) : runes (enc R) = R := by
  have := runes_enc R [] h
  rwa [List.append_nil, runes_nil, List.append_nil] at this

theorem valid_join (s t : List UInt8) (hs : validD s = true) : validD (s ++ t) = validD t := by
  have := valid_enc (runes s) t (isC_runes s hs)
  rwa [enc_runes s hs] at this
theorem runes_join (s t : List UInt8) (hs : validD s = true) : runes (s ++ t) = runes s ++ runes t := by
  have := runes_enc (runes s) t (isC_runes s hs)
  rwa [enc_runes s hs] at this

/-- The bytes of a character behind its first one are continuation bytes. -/
theorem encode_tail (c : Int) (hc : isC c) (k : Nat) (h0 : 0 < k) (hk : k < (encodeRune c).length) : ((encodeRune c).getD k 0).toNat / 64 = 2 := by
  obtain ⟨h0', h1, h2⟩ := hc
  by_cases a : c ≤ 127
  · have e : encodeRune c = [c.toNat.toUInt8] := by simp [encodeRune, encodeRuneZ_one h0' a]
    rw [e] at hk; simp at hk; omega
  · by_cases b : c ≤ 2047
    · have e : encodeRune c = [(192 + c / 64).toNat.toUInt8, (128 + c % 64).toNat.toUInt8] := by simp [encodeRune, encodeRuneZ_two (by omega : 128 ≤ c) b]
      have b1 := byte_num (128 + c % 64) (by omega) (by omega)
      rw [e] at hk ⊢
      simp at hk
      obtain rfl : k = 1 := by omega
      simp only [List.getD_cons_zero, List.getD_cons_succ, b1]; omega
    · by_cases d : c ≤ 65535
      · have e : encodeRune c = [(224 + c / 4096).toNat.toUInt8, (128 + c / 64 % 64).toNat.toUInt8, (128 + c % 64).toNat.toUInt8] := by simp [encodeRune, encodeRuneZ_three (r := c) (by omega)]
        have b1 := byte_num (128 + c / 64 % 64) (by omega) (by omega)
        have b2 := byte_num (128 + c % 64) (by omega) (by omega)
        rw [e] at hk ⊢
        simp at hk
        rcases (by omega : k = 1 ∨ k = 2) with rfl | rfl
        · simp only [List.getD_cons_zero, List.getD_cons_succ, b1]; omega
        · simp only [List.getD_cons_zero, List.getD_cons_succ, b2]; omega
      · have e : encodeRune c = [(240 + c / 262144).toNat.toUInt8, (128 + c / 4096 % 64).toNat.toUInt8, (128 + c / 64 % 64).toNat.toUInt8, (128 + c % 64).toNat.toUInt8] := by simp [encodeRune, encodeRuneZ_four (by omega : 65536 ≤ c) h1]
        have b1 := byte_num (128 + c / 4096 % 64) (by omega) (by omega)
        have b2 := byte_num (128 + c / 64 % 64) (by omega) (by omega)
        have b3 := byte_num (128 + c % 64) (by omega) (by omega)
        rw [e] at hk ⊢
        simp at hk
        rcases (by omega : k = 1 ∨ k = 2 ∨ k = 3) with rfl | rfl | rfl
        · simp only [List.getD_cons_zero, List.getD_cons_succ, b1]; omega
        · simp only [List.getD_cons_zero, List.getD_cons_succ, b2]; omega
        · simp only [List.getD_cons_zero, List.getD_cons_succ, b3]; omega

/-- No valid string begins with a continuation byte. -/
theorem valid_head (t : List UInt8) (hne : t ≠ []) (hv : validD t = true) : (t.getD 0 0).toNat / 64 ≠ 2 := by
  intro h
  rw [validD_step t hne, decodeL_N, decodeN_cont _ _ _ _ _ h] at hv
  simp at hv

/-- If the second part and the whole are valid, so is the first part. -/
theorem valid_first : ∀ (R : List Int) (s t : List UInt8), (∀ c ∈ R, isC c) → enc R = s ++ t → validD t = true → validD s = true
  | [], s, t, _, he, _ => by
    have : s = [] := by
      have h1 := congrArg List.length he
      rw [List.length_append] at h1
      exact List.eq_nil_of_length_eq_zero (by simp [enc] at h1; omega)
    subst this
    rfl
  | c :: R, s, t, h, he, ht => by
    by_cases hs : s = []
    · subst hs; rfl
    · have hc := h c (by simp)
      rw [enc_cons] at he
      by_cases hl : (encodeRune c).length ≤ s.length
      · have hp : encodeRune c = s.take (encodeRune c).length := by
          have := congrArg (List.take (encodeRune c).length) he
          rwa [List.take_left, List.take_append_of_le_length hl] at this
        have hd : enc R = s.drop (encodeRune c).length ++ t := by
          have := congrArg (List.drop (encodeRune c).length) he
          rwa [List.drop_left, List.drop_append_of_le_length hl] at this
        have ih := valid_first R (s.drop (encodeRune c).length) t (fun x hx => h x (by simp [hx])) hd ht
        have hs2 : s = enc [c] ++ s.drop (encodeRune c).length := by
          conv => lhs; rw [← List.take_append_drop (encodeRune c).length s, ← hp]
          simp [enc]
        rw [hs2, valid_enc [c] _ (by simpa using hc)]
        exact ih
      · exfalso
        have hpos : 0 < s.length := List.length_pos_iff.2 hs
        have hk := encode_tail c hc s.length hpos (by omega)
        have hne : t ≠ [] := by
          rintro rfl
          have := congrArg List.length he
          simp at this
          omega
        have h1 : (encodeRune c).getD s.length 0 = t.getD 0 0 := by
          have e1 : (encodeRune c ++ enc R)[s.length]? = (s ++ t)[s.length]? := by rw [he]
          rw [List.getElem?_append_left (by omega), List.getElem?_append_right (Nat.le_refl _), Nat.sub_self] at e1
          simp only [List.getD_eq_getElem?_getD, e1]
        rw [h1] at hk
        exact valid_head t hne ht hk
theorem valid_left (s t : List UInt8) (hst : validD (s ++ t) = true) (ht : validD t = true) : validD s = true :=
  valid_first (runes (s ++ t)) s t (isC_runes _ hst) (enc_runes _ hst) ht

/-- The string of a list of bytes. -/
def strOf (l : List UInt8) : ByteArray := ⟨l.toArray⟩
theorem strOf_list (l : List UInt8) : (strOf l).data.toList = l := by simp [strOf]
theorem strOf_eq {s : ByteArray} {l : List UInt8} (h : s.data.toList = l) : s = strOf l := by
  subst h
  cases s
  simp [strOf]
end Go.Proofs.YtlibdhnlmekmhaaGreatDoor.Utf
end
