/- The contract of Text. | What the reader reads: its plain mathematics. | What is left behind a form is a proper end of what was there. -/
import Derived.Test.YtlibdhnlmekmhaaGreatDoorMh02
import Derived.Test.YtlibdhnlmekmhaaGreatDoorMh06
import Derived.Test.YtlibdhnlmekmhaaGreatDoorMh17
import Derived.Test.YtlibdhnlmekmhaaGreatDoorMh22
/- The contract of Text. -/
section
namespace Go.Proofs.YtlibdhnlmekmhaaGreatDoor.Make
set_option maxRecDepth 100000
open Go.RowKit
open Go.Proofs.YtlibdhnlmekmhaaGreatDoor.Own Go.Proofs.YtlibdhnlmekmhaaGreatDoor.Hp Go.Proofs.YtlibdhnlmekmhaaGreatDoor.HeapOrd Go.Proofs.YtlibdhnlmekmhaaGreatDoor.Rep Go.Proofs.YtlibdhnlmekmhaaGreatDoor.Base Go.Proofs.YtlibdhnlmekmhaaGreatDoor.Get Go.Proofs.YtlibdhnlmekmhaaGreatDoor.Size Go.Proofs.YtlibdhnlmekmhaaGreatDoor.Add Go.Proofs.YtlibdhnlmekmhaaGreatDoor.Clone Go.Proofs.YtlibdhnlmekmhaaGreatDoor.Strs

/-- What Text returns. -/
def textO (ob : Obs) (lim : Nat) (s : ByteArray) : Wd × Int × Obs :=
  if Lib.validD s.data.toList = false then ((0, 0), 5, ob) else if 65536 < lenL s.data.toList then ((0, 0), 4, ob) else addO ob lim (.text s (lenL s.data.toList))

set_option maxHeartbeats 4000000 in
theorem text_bad {w : World} {base hp lim : Nat} {ob : Obs} {lab : Nat → Option Lab} {P : Parts} (h : HeapIs w base hp lim ob lab P) (s : ByteArray) (hs : s.size ≤ 4611686018427387904) (hT : Tabs w) (hv : Lib.validD s.data.toList = false) :
    Calls Tryz.prog 174 #[ptr hp, .string s] w fun e w' => e = .returned (.tuple #[wd (0, 0), .int .i64 5]) ∧ Below w.heap.size w w' := by
  have hb1 : Below w.heap.size w (w.alloc (.cells #[.int .i64 0, .int .i64 0] 28)) := (Below.refl _ _).alloc (Nat.le_refl _) _
  have HV := Lib.hid (Get.valid_any h _ hb1)
  have hL := Strs.valid_any s _ (by omega) (hT.below hb1)
  rw [hv] at hL
  have HL := Lib.hid hL
  clear h hL hT hv
  go_enter Tryz.func174, Tryz.ntmps174
  go_wp2_with fail
  refine HV.out.mono ?_
  rintro e w1 ⟨rfl, rfl⟩
  go_wp2_with fail
  refine HL.out.mono ?_
  rintro e w2 ⟨rfl, hb2⟩
  obtain ⟨b0, b1, e0, e1⟩ := (one_new hb2).two
  go_wp2_with fail
  refine bodyPost_ret (v := .tuple #[wd (0, 0), .int .i64 5]) (by simp [results, Tryz.results174, go_sem, b0, b1]) rfl ⟨rfl, ?_⟩
  exact ((hb1.trans (hb2.mono hb1.size)).setCell (by simp) _).setCell (by simp) _
set_option maxHeartbeats 4000000 in
theorem text_long {w : World} {base hp lim : Nat} {ob : Obs} {lab : Nat → Option Lab} {P : Parts} (h : HeapIs w base hp lim ob lab P) (s : ByteArray) (hs : s.size ≤ 4611686018427387904) (hT : Tabs w) (hv : Lib.validD s.data.toList = true) (n : Nat) (hn : lenL s.data.toList = n) (hlong : 65536 < n) :
    Calls Tryz.prog 174 #[ptr hp, .string s] w fun e w' => e = .returned (.tuple #[wd (0, 0), .int .i64 4]) ∧ Below w.heap.size w w' := by
  have hb1 : Below w.heap.size w (w.alloc (.cells #[.int .i64 0, .int .i64 0] 28)) := (Below.refl _ _).alloc (Nat.le_refl _) _
  have HV := Lib.hid (Get.valid_any h _ hb1)
  have hL := Strs.valid_any s _ (by omega) (hT.below hb1)
  rw [hv] at hL
  have HL := Lib.hid hL
  have hN := fun w2 (hb : Below w.heap.size w w2) => len_any s w2 (by omega) (hT.below hb)
  simp only [hn] at hN
  have HN := Lib.hid hN
  have hd : decide ((65536 : Int) < n) = true := decide_eq_true (by omega)
  clear h hL hT hv hN hn
  go_enter Tryz.func174, Tryz.ntmps174
  go_wp2_with fail
  refine HV.out.mono ?_
  rintro e w1 ⟨rfl, rfl⟩
  go_wp2_with fail
  refine HL.out.mono ?_
  rintro e w2 ⟨rfl, hb2⟩
  have hb3 := hb1.trans (hb2.mono hb1.size)
  have hB2 := one_new hb2
  go_wp2_with fail
  refine (HN.out _ hb3).mono ?_
  rintro e w3 ⟨rfl, hb4⟩
  obtain ⟨b0, b1, e0, e1⟩ := (hB2.below hb4).two
  clear hB2
  go_wp2_with fail
  refine bodyPost_ret (v := .tuple #[wd (0, 0), .int .i64 4]) (by simp [results, Tryz.results174, go_sem, b0, b1]) rfl ⟨rfl, ?_⟩
  exact ((hb3.trans (hb4.mono hb3.size)).setCell (by simp) _).setCell (by simp) _
set_option maxHeartbeats 4000000 in
theorem text_good {w : World} {base hp lim : Nat} {ob : Obs} {lab : Nat → Option Lab} {P : Parts} (h : HeapIs w base hp lim ob lab P) (hb : base ≤ w.heap.size) (s : ByteArray) (hs : s.size ≤ 4611686018427387904) (hT : Tabs w) (hv : Lib.validD s.data.toList = true) (n : Nat) (hn : lenL s.data.toList = n) (hshort : n ≤ 65536) :
    Calls Tryz.prog 174 #[ptr hp, .string s] w fun e w' => e = .returned (.tuple #[wd (addO ob lim (.text s n)).1, .int .i64 (addO ob lim (.text s n)).2.1]) ∧ AddOk w w' base hp lim (addO ob lim (.text s n)).2.2 lab := by
  have hb1 : Below w.heap.size w (w.alloc (.cells #[.int .i64 0, .int .i64 0] 28)) := (Below.refl _ _).alloc (Nat.le_refl _) _
  have HV := Lib.hid (Get.valid_any h _ hb1)
  have hL := Strs.valid_any s _ (by omega) (hT.below hb1)
  rw [hv] at hL
  have HL := Lib.hid hL
  have hN := fun w2 (hb : Below w.heap.size w w2) => len_any s w2 (by omega) (hT.below hb)
  simp only [hn] at hN
  have HN := Lib.hid hN
  have hd : decide ((65536 : Int) < n) = false := decide_eq_false (by omega)
  obtain ⟨R, hR⟩ : ∃ R, addO ob lim (.text s n) = R := ⟨_, rfl⟩
  rw [hR]
  have HRR := Lib.hid hR
  have HH := Lib.hid h
  have HB := Lib.hid hb
  clear h hL hT hv hN hn hR hb
  go_enter Tryz.func174, Tryz.ntmps174
  go_wp2_with fail
  refine HV.out.mono ?_
  rintro e w1 ⟨rfl, rfl⟩
  go_wp2_with fail
  refine HL.out.mono ?_
  rintro e w2 ⟨rfl, hb2⟩
  have hb3 := hb1.trans (hb2.mono hb1.size)
  have hB2 := one_new hb2
  clear hb1 hb2
  go_wp2_with fail
  refine (HN.out _ hb3).mono ?_
  rintro e w3 ⟨rfl, hb4⟩
  have hr3 := hB2.below hb4
  have hb5 := hb3.trans (hb4.mono hb3.size)
  have hb6 := hb5.alloc hb5.size (.cells #[.string s, .int .i64 (n : Int)] 114)
  have hnl : NewLab (w3.alloc (.cells #[.string s, .int .i64 (n : Int)] 114)) base (freeTo ob lim) (lab1 w3.heap.size (freeTo ob lim)) lab := by
    refine ⟨fun b l hl => ?_, fun b l hl => ?_⟩
    · unfold lab1 at hl
      split at hl
      · rename_i e
        subst e
        exact ⟨lab_none HH.out hb5.size, Nat.le_trans HB.out hb5.size, by simp⟩
      · cases hl
    · unfold lab1 at hl
      split at hl
      · cases hl; rfl
      · cases hl
  have hA := add_any (HH.out.below hb6) hnl (v := .iface 110 (ptr w3.heap.size)) (o := .text s n) ⟨_, rfl, by simp [lab1], Blk.new _ _ _⟩ hshort (Nat.le_trans HB.out hb6.size)
  have hE := fun w4 ob' => make_end (w2 := w4) (ob' := ob') HH.out hb6 hnl (fun b hl => by
    unfold lab1 at hl
    split at hl
    · rename_i e; have := hb5.size; omega
    · exact absurd rfl hl) (r := w.heap.size) (Nat.le_refl _) (by unfold lab1; rw [if_neg (by have := hr3.lt; omega)]) (hr3.alloc _)
  rw [HRR.out] at hA
  have HA := Lib.hid hA
  have HE := Lib.hid hE
  clear hA hE hnl hb6 hb5 hr3 hb4 hb3 hB2
  go_wp2_with fail
  refine HA.out.mono ?_
  rintro e w4 ⟨rfl, hok⟩
  obtain ⟨hB4, hfin⟩ := HE.out w4 _ hok
  obtain ⟨b0, b1, e0, e1⟩ := hB4.two
  have HF := Lib.hid hfin
  clear hok hB4 hfin
  go_wp2_with fail
  refine bodyPost_ret (v := .tuple #[wd R.1, .int .i64 R.2.1]) (by simp [results, Tryz.results174, go_sem, b0, b1]) rfl ⟨rfl, HF.out _ _⟩
theorem text_any {w : World} {base hp lim : Nat} {ob : Obs} {lab : Nat → Option Lab} {P : Parts} (h : HeapIs w base hp lim ob lab P) (hb : base ≤ w.heap.size) (s : ByteArray) (hs : s.size ≤ 4611686018427387904) (hT : Tabs w) :
    Calls Tryz.prog 174 #[ptr hp, .string s] w fun e w' => e = .returned (.tuple #[wd (textO ob lim s).1, .int .i64 (textO ob lim s).2.1]) ∧ AddOk w w' base hp lim (textO ob lim s).2.2 lab := by
  unfold textO
  cases hv : Lib.validD s.data.toList
  · rw [if_pos rfl]
    exact (text_bad h s hs hT hv).mono fun e w' ⟨he, hbw⟩ => ⟨he, addOk_below h hbw⟩
  · rw [if_neg (by simp)]
    by_cases hn : 65536 < lenL s.data.toList
    · rw [if_pos hn]
      exact (text_long h s hs hT hv _ rfl hn).mono fun e w' ⟨he, hbw⟩ => ⟨he, addOk_below h hbw⟩
    · rw [if_neg hn]
      exact text_good h hb s hs hT hv _ rfl (by omega)
end Go.Proofs.YtlibdhnlmekmhaaGreatDoor.Make
end

/- What the reader reads: its plain mathematics. -/
section
namespace Go.Proofs.YtlibdhnlmekmhaaGreatDoor.Rd
open Go.RowKit
open Go.Proofs.YtlibdhnlmekmhaaGreatDoor.Hp Go.Proofs.YtlibdhnlmekmhaaGreatDoor.Add Go.Proofs.YtlibdhnlmekmhaaGreatDoor.Make Go.Proofs.YtlibdhnlmekmhaaGreatDoor.Utf Go.Proofs.YtlibdhnlmekmhaaGreatDoor.Chars
open Go.Proofs.YtlibdhnlmekmhaaGreatDoor.Nt hiding Wd

/-- What is left to read, the objects of the heap, the table. -/
structure St where
  rest : List Int
  ob : Obs
  tb : Tb
/-- A result, or an error's number with how many characters are left at its place. -/
inductive Res (α : Type) where
  | ok (x : α) (s : St)
  | err (c : Int) (rem : Nat) (ob : Obs) (tb : Tb)
/-- The same of what neither creates nor interns: its error is always that of the form. -/
inductive Sc (α : Type) where
  | ok (x : α) (r : List Int)
  | bad (rem : Nat)

def blankB (c : Int) : Bool := c == 9 || c == 10 || c == 12 || c == 13 || c == 32
def delimB (c : Int) : Bool := c == 40 || c == 41 || c == 91 || c == 93 || c == 34 || c == 39 || c == 96 || c == 44 || c == 59 || blankB c
def endsB : List Int → Bool
  | [] => true
  | c :: _ => delimB c
/-- Blanks and comments are skipped; b: within a comment. -/
def skipF : Bool → List Int → List Int
  | _, [] => []
  | true, c :: r => if c = 10 then skipF false r else skipF true r
  | false, c :: r => if c = 59 then skipF true r else if blankB c then skipF false r else c :: r

/-- A token: its characters, whether it has no backslash, what is left. -/
def tokF : Bool → List Int → Bool → List Int → Option (List Int × Bool × List Int)
  | true, acc, _, [] => none
  | true, acc, _, d :: r => tokF false (acc ++ [d]) false r
  | false, acc, pl, [] => some (acc, pl, [])
  | false, acc, pl, c :: r => if delimB c then some (acc, pl, c :: r) else if c = 92 then tokF true acc false r else tokF false (acc ++ [c]) pl r

def digitB (c : Int) : Bool := decide (48 ≤ c ∧ c ≤ 57)
def unsign : List Int → List Int
  | [] => []
  | c :: r => if c = 43 ∨ c = 45 then r else c :: r
def numB (l : List Int) : Bool := !(unsign l).isEmpty && (unsign l).all digitB
def valF (l : List Int) : Int := l.foldl (fun n c => 10 * n + (c - 48)) 0
def intV (l : List Int) : Int := if l.head? = some 45 then -valF (unsign l) else valF (unsign l)

/-- The value of a hexadecimal digit. -/
def digZ (c : Int) : Int := if 48 ≤ downZ c ∧ downZ c ≤ 57 then downZ c - 48 else if 97 ≤ downZ c ∧ downZ c ≤ 102 then downZ c - 87 else -1
/-- The number of a character and the backslash behind it; st: what is left at its beginning. -/
def hexF (st : Nat) : Nat → Int → List Int → Sc Int
  | _, _, [] => .bad 0
  | k, n, c :: r => if k < 6 ∧ 0 ≤ digZ c then hexF st (k + 1) (16 * n + digZ c) r else if k = 0 ∨ c ≠ 92 ∨ isZ n = false then .bad st else .ok n r
def ctlZ (c : Int) : Option Int := if c = 110 then some 10 else if c = 116 then some 9 else if c = 101 then some 27 else none
/-- An escape in a string behind its backslash. -/
def escF : List Int → Sc (Option Int)
  | [] => .bad 0
  | d :: r => if d = 92 ∨ d = 34 then .ok (some d) r else if d = 10 then .ok none r
    else if d = 120 then (match hexF (r.length + 2) 0 0 r with | .ok n r' => .ok (some n) r' | .bad m => .bad m)
    else match ctlZ d with | some k => .ok (some k) r | none => .bad (r.length + 2)
/-- The characters of a string behind its first quote. -/
def strF : Nat → List Int → List Int → Sc (List Int)
  | 0, _, _ => .bad 0
  | _ + 1, _, [] => .bad 0
  | k + 1, acc, c :: r => if c = 34 then .ok acc r
    else if c = 92 then (match escF r with | .ok o r' => strF k (acc ++ o.toList) r' | .bad m => .bad m)
    else strF k (acc ++ [c]) r

def modZ (c : Int) : Int := if c = 67 then 67108864 else if c = 77 then 134217728 else if c = 83 then 33554432 else 0
/-- The dash behind a modifier. -/
def minusF (st : Nat) (b : Int) : List Int → Sc (Int ⊕ Int)
  | [] => .bad 0
  | e :: r => if e = 45 then .ok (.inr b) r else .bad st
/-- An escape in a character literal behind its backslash: a character, or a modifier. -/
def cescF : List Int → Sc (Int ⊕ Int)
  | [] => .bad 0
  | d :: r => if modZ d ≠ 0 then minusF (r.length + 2) (modZ d) r
    else if d = 115 then .ok (.inl 32) r else if d = 100 then .ok (.inl 127) r
    else if 97 ≤ downZ d ∧ downZ d ≤ 122 then (match ctlZ d with | some k => .ok (.inl k) r | none => .bad (r.length + 2))
    else .ok (.inl d) r
/-- The character and the modifiers of a literal behind its question mark. -/
def chrF : Nat → Int → List Int → Sc (Int × Int)
  | 0, _, _ => .bad 0
  | _ + 1, _, [] => .bad 0
  | k + 1, m, c :: r => if c = 92 then (match cescF r with | .ok (.inl x) r' => .ok (x, m) r' | .ok (.inr b) r' => chrF k (bits .or .i64 m b) r' | .bad n => .bad n)
    else .ok (c, m) r

/-- An integer or a symbol. -/
def symG (s : St) (acc : List Int) (r : List Int) : Res Wd :=
  if (internO s.tb (strOf (enc acc))).2.1 = 0 then .ok (1, (internO s.tb (strOf (enc acc))).1) ⟨r, s.ob, (internO s.tb (strOf (enc acc))).2.2⟩
  else .err (internO s.tb (strOf (enc acc))).2.1 s.rest.length s.ob (internO s.tb (strOf (enc acc))).2.2
def intG (s : St) (acc : List Int) (r : List Int) : Res Wd :=
  if -2305843009213693952 ≤ intV acc ∧ intV acc ≤ 2305843009213693951 then .ok (0, intV acc) ⟨r, s.ob, s.tb⟩ else .err 15 s.rest.length s.ob s.tb
def tokenG (s : St) : Res Wd :=
  match tokF false [] true s.rest with
  | none => .err 5 0 s.ob s.tb
  | some (acc, pl, r) =>
    if pl = true ∧ acc = [46] then .err 5 s.rest.length s.ob s.tb
    else if pl = true ∧ numB acc = true then intG s acc r
    else symG s acc r
/-- A string. -/
def textG (lim : Nat) (s : St) : Res Wd :=
  match strF s.rest.length [] s.rest.tail with
  | .bad m => .err 5 m s.ob s.tb
  | .ok acc r =>
    if (textO s.ob lim (strOf (enc acc))).2.1 = 0 then .ok (textO s.ob lim (strOf (enc acc))).1 ⟨r, (textO s.ob lim (strOf (enc acc))).2.2, s.tb⟩
    else .err (textO s.ob lim (strOf (enc acc))).2.1 s.rest.length (textO s.ob lim (strOf (enc acc))).2.2 s.tb
/-- What the modifiers make of a character. -/
def modifyZ (c m : Int) : Int :=
  if bits .and .i64 m 67108864 = 0 then c + m
  else if (97 ≤ c ∧ c ≤ 122) ∨ (64 ≤ c ∧ c ≤ 95) then c % 32 + bits .andNot .i64 m 67108864
  else if c = 63 then 127 + bits .andNot .i64 m 67108864
  else c + m
def charG (s : St) : Res Wd :=
  match chrF s.rest.length 0 s.rest.tail with
  | .bad m => .err 5 m s.ob s.tb
  | .ok (c, m) r => if endsB r then .ok (0, modifyZ c m) ⟨r, s.ob, s.tb⟩ else .err 5 r.length s.ob s.tb

/-- Conses of the elements, the last one first. -/
def consR (lim : Nat) : List Wd → Wd → Obs → Wd × Int × Obs
  | [], w, ob => (w, 0, ob)
  | x :: l, w, ob => if (addO ob lim (.cons x w)).2.1 = 0 then consR lim l (addO ob lim (.cons x w)).1 (addO ob lim (.cons x w)).2.2
    else ((0, 0), (addO ob lim (.cons x w)).2.1, (addO ob lim (.cons x w)).2.2)
def listG (lim : Nat) (E : St → Res (List Wd × Wd)) (o : Nat) (s : St) : Res Wd :=
  if o = 200 then .err 12 s.rest.length s.ob s.tb else
  match E ⟨s.rest.tail, s.ob, s.tb⟩ with
  | .ok (l, w) s2 => if (consR lim l.reverse w s2.ob).2.1 = 0 then .ok (consR lim l.reverse w s2.ob).1 ⟨s2.rest, (consR lim l.reverse w s2.ob).2.2, s2.tb⟩
    else .err (consR lim l.reverse w s2.ob).2.1 s.rest.length (consR lim l.reverse w s2.ob).2.2 s2.tb
  | .err c m ob tb => .err c m ob tb
/-- The error of a vector that is not created. -/
def vecE (c : Int) : Int := if c = 4 then 7 else c
def vecG (lim : Nat) (V : St → Res (List Wd)) (o : Nat) (s : St) : Res Wd :=
  if o = 200 then .err 12 s.rest.length s.ob s.tb else
  match V ⟨s.rest.tail, s.ob, s.tb⟩ with
  | .ok l s2 => if (vecO s2.ob lim l).2.1 = 0 then .ok (vecO s2.ob lim l).1 ⟨s2.rest, (vecO s2.ob lim l).2.2, s2.tb⟩
    else .err (vecE (vecO s2.ob lim l).2.1) s.rest.length (vecO s2.ob lim l).2.2 s2.tb
  | .err c m ob tb => .err c m ob tb
/-- A cons of the form x that begins where s stands. -/
def consG (lim : Nat) (s s2 : St) (x y : Wd) : Res Wd :=
  if (addO s2.ob lim (.cons x y)).2.1 = 0 then .ok (addO s2.ob lim (.cons x y)).1 ⟨s2.rest, (addO s2.ob lim (.cons x y)).2.2, s2.tb⟩
  else .err (addO s2.ob lim (.cons x y)).2.1 s.rest.length (addO s2.ob lim (.cons x y)).2.2 s2.tb
def prefG (lim : Nat) (F : St → Res Wd) (o : Nat) (n : Int) (len : Nat) (s : St) : Res Wd :=
  if o = 200 then .err 12 s.rest.length s.ob s.tb else
  match F ⟨s.rest.drop len, s.ob, s.tb⟩ with
  | .ok x s2 => (match consG lim s s2 x (1, 0) with | .ok y s3 => consG lim s s3 (1, n) y | .err c m ob tb => .err c m ob tb)
  | .err c m ob tb => .err c m ob tb
def hashG (lim : Nat) (F : St → Res Wd) (o : Nat) (s : St) : Res Wd :=
  if s.rest.tail.head? = some 39 then prefG lim F o 3 2 s
  else if s.rest.tail.head? = some 35 ∧ endsB (s.rest.drop 2) = true then symG s [] (s.rest.drop 2)
  else .err 5 s.rest.length s.ob s.tb
def commaG (lim : Nat) (F : St → Res Wd) (o : Nat) (s : St) : Res Wd :=
  if s.rest.tail.head? = some 64 then prefG lim F o 6 2 s else prefG lim F o 5 1 s
/-- A form by its first character. -/
def headG (lim : Nat) (F : St → Res Wd) (E : St → Res (List Wd × Wd)) (V : St → Res (List Wd)) (o : Nat) (c : Int) (s : St) : Res Wd :=
  if c = 40 then listG lim E o s
  else if c = 41 ∨ c = 93 then .err 5 s.rest.length s.ob s.tb
  else if c = 91 then vecG lim V o s
  else if c = 39 then prefG lim F o 2 1 s
  else if c = 96 then prefG lim F o 4 1 s
  else if c = 44 then commaG lim F o s
  else if c = 35 then hashG lim F o s
  else if c = 34 then textG lim s
  else if c = 63 then charG s
  else tokenG s
def formG (lim : Nat) (F : St → Res Wd) (E : St → Res (List Wd × Wd)) (V : St → Res (List Wd)) (o : Nat) (s : St) : Res Wd :=
  match skipF false s.rest with
  | [] => .err 5 0 s.ob s.tb
  | c :: r => headG lim F E V o c ⟨c :: r, s.ob, s.tb⟩
/-- What stands behind a dot. -/
def tailG (F : St → Res Wd) (acc : List Wd) (s : St) : Res (List Wd × Wd) :=
  match F s with
  | .ok x s2 => (match skipF false s2.rest with
    | [] => .err 5 0 s2.ob s2.tb
    | d :: r => if d = 41 then .ok (acc, x) ⟨r, s2.ob, s2.tb⟩ else .err 5 (r.length + 1) s2.ob s2.tb)
  | .err c m ob tb => .err c m ob tb
/-- Whether a dot stands alone here. -/
def dotB (acc : List Wd) (l : List Int) : Bool := !acc.isEmpty && (l.head? == some 46) && endsB l.tail
def elemG (F : St → Res Wd) (E : List Wd → St → Res (List Wd × Wd)) (acc : List Wd) (s : St) : Res (List Wd × Wd) :=
  if (skipF false s.rest).head? = some 41 then .ok (acc, (1, 0)) ⟨(skipF false s.rest).tail, s.ob, s.tb⟩
  else if dotB acc (skipF false s.rest) = true then tailG F acc ⟨(skipF false s.rest).tail, s.ob, s.tb⟩
  else match F ⟨skipF false s.rest, s.ob, s.tb⟩ with
  | .ok x s2 => E (acc ++ [x]) s2
  | .err c m ob tb => .err c m ob tb
def eachG (F : St → Res Wd) (V : List Wd → St → Res (List Wd)) (acc : List Wd) (s : St) : Res (List Wd) :=
  if (skipF false s.rest).head? = some 93 then .ok acc ⟨(skipF false s.rest).tail, s.ob, s.tb⟩
  else match F ⟨skipF false s.rest, s.ob, s.tb⟩ with
  | .ok x s2 => V (acc ++ [x]) s2
  | .err c m ob tb => .err c m ob tb

/-- Forms, elements of lists and of vectors, by how deep one looks. -/
def M (lim : Nat) : Nat → (Nat → St → Res Wd) × (Nat → List Wd → St → Res (List Wd × Wd)) × (Nat → List Wd → St → Res (List Wd))
  | 0 => (fun _ s => .err 5 0 s.ob s.tb, fun _ _ s => .err 5 0 s.ob s.tb, fun _ _ s => .err 5 0 s.ob s.tb)
  | k + 1 => (fun o => formG lim ((M lim k).1 (o + 1)) ((M lim k).2.1 (o + 1) []) ((M lim k).2.2 (o + 1) []) o,
    fun o => elemG ((M lim k).1 o) ((M lim k).2.1 o), fun o => eachG ((M lim k).1 o) ((M lim k).2.2 o))
def formM (lim k o : Nat) : St → Res Wd := (M lim k).1 o
def elemM (lim k o : Nat) : List Wd → St → Res (List Wd × Wd) := (M lim k).2.1 o
def eachM (lim k o : Nat) : List Wd → St → Res (List Wd) := (M lim k).2.2 o
theorem formM_succ (lim k o : Nat) : formM lim (k + 1) o = formG lim (formM lim k (o + 1)) (elemM lim k (o + 1) []) (eachM lim k (o + 1) []) o := rfl
theorem elemM_succ (lim k o : Nat) : elemM lim (k + 1) o = elemG (formM lim k o) (elemM lim k o) := rfl
theorem eachM_succ (lim k o : Nat) : eachM lim (k + 1) o = eachG (formM lim k o) (eachM lim k o) := rfl
/-- All forms. -/
def allM (lim : Nat) (k : Nat) : Nat → List Wd → St → Res (List Wd)
  | 0, _, s => .err 5 0 s.ob s.tb
  | j + 1, acc, s => if skipF false s.rest = [] then .ok acc ⟨[], s.ob, s.tb⟩
    else match formM lim k 0 ⟨skipF false s.rest, s.ob, s.tb⟩ with
    | .ok x s2 => allM lim k j (acc ++ [x]) s2
    | .err c m ob tb => .err c m ob tb
end Go.Proofs.YtlibdhnlmekmhaaGreatDoor.Rd
end

/- What is left behind a form is a proper end of what was there. -/
section
namespace Go.Proofs.YtlibdhnlmekmhaaGreatDoor.Rd
open Go.RowKit
open Go.Proofs.YtlibdhnlmekmhaaGreatDoor.Hp Go.Proofs.YtlibdhnlmekmhaaGreatDoor.Add Go.Proofs.YtlibdhnlmekmhaaGreatDoor.Make Go.Proofs.YtlibdhnlmekmhaaGreatDoor.Utf Go.Proofs.YtlibdhnlmekmhaaGreatDoor.Chars
open Go.Proofs.YtlibdhnlmekmhaaGreatDoor.Nt hiding Wd

/-- b is an end of a, and shorter. -/
def Lt (a b : List Int) : Prop := b <:+ a ∧ b.length < a.length
theorem Lt.of_suf {a b c : List Int} (h : b <:+ a) (k : Lt b c) : Lt a c := ⟨k.1.trans h, Nat.lt_of_lt_of_le k.2 h.length_le⟩
theorem Lt.suf {a b c : List Int} (h : Lt a b) (k : c <:+ b) : Lt a c := ⟨k.trans h.1, Nat.lt_of_le_of_lt k.length_le h.2⟩
theorem Lt.tail {c : Int} {r : List Int} : Lt (c :: r) r := ⟨List.suffix_cons c r, by simp⟩
theorem Lt.trans {a b c : List Int} (h : Lt a b) (k : Lt b c) : Lt a c := h.suf k.1
theorem suf_drop (l : List Int) (n : Nat) : l.drop n <:+ l := List.drop_suffix n l
theorem Lt.drop {c : Int} {r : List Int} {n : Nat} (h : 1 ≤ n) : Lt (c :: r) ((c :: r).drop n) := by
  obtain ⟨m, rfl⟩ : ∃ m, n = m + 1 := ⟨n - 1, by omega⟩
  rw [List.drop_succ_cons]
  exact Lt.tail.suf (suf_drop _ _)

theorem skipF_suf : ∀ (l : List Int) (b : Bool), skipF b l <:+ l
  | [], b => by cases b <;> exact List.suffix_refl _
  | c :: r, b => by
    cases b
    · rw [skipF]
      split
      · exact (skipF_suf r true).trans (List.suffix_cons _ _)
      · split
        · exact (skipF_suf r false).trans (List.suffix_cons _ _)
        · exact List.suffix_refl _
    · rw [skipF]
      split
      · exact (skipF_suf r false).trans (List.suffix_cons _ _)
      · exact (skipF_suf r true).trans (List.suffix_cons _ _)
theorem skipF_head : ∀ (l : List Int) (b : Bool) (c : Int) (r : List Int), skipF b l = c :: r → c ≠ 59 ∧ blankB c = false
  | [], b, c, r, h => by cases b <;> cases h
  | d :: l, b, c, r, h => by
    cases b
    · rw [skipF] at h
      split at h
      · exact skipF_head l true c r h
      · split at h
        · exact skipF_head l false c r h
        · rename_i h1 h2
          cases h
          exact ⟨h1, by simpa using h2⟩
    · rw [skipF] at h
      split at h
      · exact skipF_head l false c r h
      · exact skipF_head l true c r h
theorem skipF_stop {c : Int} {r : List Int} (h1 : c ≠ 59) (h2 : blankB c = false) : skipF false (c :: r) = c :: r := by
  rw [skipF, if_neg h1, if_neg (by simp [h2])]
theorem skipF_skipF (l : List Int) (b : Bool) : skipF false (skipF b l) = skipF b l := by
  cases h : skipF b l with
  | nil => rfl
  | cons c r =>
    obtain ⟨h1, h2⟩ := skipF_head l b c r h
    exact skipF_stop h1 h2

theorem tokF_suf : ∀ (l : List Int) (b : Bool) (acc : List Int) (pl : Bool) (a : List Int) (p : Bool) (r : List Int), tokF b acc pl l = some (a, p, r) → r <:+ l
  | [], b, acc, pl, a, p, r, h => by
    cases b
    · rw [tokF] at h; cases h; exact List.suffix_refl _
    · rw [tokF] at h; cases h
  | c :: l, b, acc, pl, a, p, r, h => by
    cases b
    · rw [tokF] at h
      split at h
      · cases h; exact List.suffix_refl _
      · split at h
        · exact (tokF_suf l true acc false a p r h).trans (List.suffix_cons _ _)
        · exact (tokF_suf l false _ pl a p r h).trans (List.suffix_cons _ _)
    · rw [tokF] at h
      exact (tokF_suf l false _ false a p r h).trans (List.suffix_cons _ _)
theorem tokF_lt {c : Int} {l : List Int} {acc : List Int} {pl : Bool} {a : List Int} {p : Bool} {r : List Int} (hc : delimB c = false) (h : tokF false acc pl (c :: l) = some (a, p, r)) : Lt (c :: l) r := by
  rw [tokF, if_neg (by simp [hc])] at h
  split at h
  · exact Lt.tail.suf (tokF_suf l true acc false a p r h)
  · exact Lt.tail.suf (tokF_suf l false _ pl a p r h)
theorem hexF_suf (st : Nat) : ∀ (l : List Int) (k : Nat) (n x : Int) (r : List Int), hexF st k n l = .ok x r → r <:+ l
  | [], k, n, x, r, h => by rw [hexF] at h; cases h
  | c :: l, k, n, x, r, h => by
    rw [hexF] at h
    split at h
    · exact (hexF_suf st l _ _ x r h).trans (List.suffix_cons _ _)
    · split at h
      · cases h
      · cases h; exact List.suffix_cons _ _
theorem escF_suf {l : List Int} {o : Option Int} {r : List Int} (h : escF l = .ok o r) : r <:+ l := by
  cases l with
  | nil => rw [escF] at h; cases h
  | cons d l =>
    rw [escF] at h
    split at h
    · cases h; exact List.suffix_cons _ _
    · split at h
      · cases h; exact List.suffix_cons _ _
      · split at h
        · split at h
          · rename_i n r' he
            cases h
            exact (hexF_suf _ _ _ _ _ _ he).trans (List.suffix_cons _ _)
          · cases h
        · split at h
          · cases h; exact List.suffix_cons _ _
          · cases h
theorem strF_suf : ∀ (k : Nat) (acc l a r : List Int), strF k acc l = .ok a r → r <:+ l
  | 0, acc, l, a, r, h => by rw [strF] at h; cases h
  | k + 1, acc, [], a, r, h => by rw [strF] at h; cases h
  | k + 1, acc, c :: l, a, r, h => by
    rw [strF] at h
    split at h
    · cases h; exact List.suffix_cons _ _
    · split at h
      · split at h
        · rename_i o r' he
          exact ((strF_suf k _ _ a r h).trans (escF_suf he)).trans (List.suffix_cons _ _)
        · cases h
      · exact (strF_suf k _ _ a r h).trans (List.suffix_cons _ _)
theorem minusF_suf {st : Nat} {b : Int} {l : List Int} {o : Int ⊕ Int} {r : List Int} (h : minusF st b l = .ok o r) : Lt l r := by
  cases l with
  | nil => rw [minusF] at h; cases h
  | cons e l =>
    rw [minusF] at h
    split at h
    · cases h; exact Lt.tail
    · cases h
theorem cescF_suf {l : List Int} {o : Int ⊕ Int} {r : List Int} (h : cescF l = .ok o r) : r <:+ l := by
  cases l with
  | nil => rw [cescF] at h; cases h
  | cons d l =>
    rw [cescF] at h
    split at h
    · exact (minusF_suf h).1.trans (List.suffix_cons _ _)
    · split at h
      · cases h; exact List.suffix_cons _ _
      · split at h
        · cases h; exact List.suffix_cons _ _
        · split at h
          · split at h
            · cases h; exact List.suffix_cons _ _
            · cases h
          · cases h; exact List.suffix_cons _ _
theorem chrF_suf : ∀ (k : Nat) (m : Int) (l : List Int) (x : Int × Int) (r : List Int), chrF k m l = .ok x r → r <:+ l
  | 0, m, l, x, r, h => by rw [chrF] at h; cases h
  | k + 1, m, [], x, r, h => by rw [chrF] at h; cases h
  | k + 1, m, c :: l, x, r, h => by
    rw [chrF] at h
    split at h
    · split at h
      · rename_i y r' he
        cases h
        exact (cescF_suf he).trans (List.suffix_cons _ _)
      · rename_i b r' he
        exact ((chrF_suf k _ _ x r h).trans (cescF_suf he)).trans (List.suffix_cons _ _)
      · cases h
    · cases h; exact List.suffix_cons _ _

theorem symG_suf {s : St} {acc r : List Int} {x : Wd} {s' : St} (h : symG s acc r = .ok x s') : s'.rest = r := by
  unfold symG at h
  split at h <;> cases h
  rfl
theorem intG_suf {s : St} {acc r : List Int} {x : Wd} {s' : St} (h : intG s acc r = .ok x s') : s'.rest = r := by
  unfold intG at h
  split at h <;> cases h
  rfl
theorem tokenG_lt {s : St} {c : Int} {l : List Int} {x : Wd} {s' : St} (hs : s.rest = c :: l) (hc : delimB c = false) (h : tokenG s = .ok x s') : Lt s.rest s'.rest := by
  unfold tokenG at h
  split at h
  · cases h
  · rename_i acc pl r ht
    rw [hs] at ht
    have hl := tokF_lt hc ht
    rw [← hs] at hl
    split at h
    · cases h
    · split at h
      · rw [intG_suf h]; exact hl
      · rw [symG_suf h]; exact hl
theorem textG_lt {lim : Nat} {s : St} {c : Int} {l : List Int} {x : Wd} {s' : St} (hs : s.rest = c :: l) (h : textG lim s = .ok x s') : Lt s.rest s'.rest := by
  unfold textG at h
  split at h
  · cases h
  · rename_i acc r ht
    have hl := strF_suf _ _ _ _ _ ht
    split at h <;> cases h
    rw [hs] at hl ⊢
    exact Lt.tail.suf hl
theorem charG_lt {s : St} {c : Int} {l : List Int} {x : Wd} {s' : St} (hs : s.rest = c :: l) (h : charG s = .ok x s') : Lt s.rest s'.rest := by
  unfold charG at h
  split at h
  · cases h
  · rename_i y m r ht
    have hl := chrF_suf _ _ _ _ _ ht
    split at h <;> cases h
    rw [hs] at hl ⊢
    exact Lt.tail.suf hl
theorem consG_suf {lim : Nat} {s s2 : St} {x y z : Wd} {s' : St} (h : consG lim s s2 x y = .ok z s') : s'.rest = s2.rest := by
  unfold consG at h
  split at h <;> cases h
  rfl
theorem listG_lt {lim : Nat} {E : St → Res (List Wd × Wd)} {o : Nat} {s : St} {c : Int} {l : List Int} {x : Wd} {s' : St} (hE : ∀ s x s', E s = .ok x s' → s'.rest <:+ s.rest) (hs : s.rest = c :: l) (h : listG lim E o s = .ok x s') : Lt s.rest s'.rest := by
  unfold listG at h
  split at h
  · cases h
  · split at h
    · rename_i l' w s2 he
      have hl := hE _ _ _ he
      split at h <;> cases h
      rw [hs] at hl ⊢
      exact Lt.tail.suf hl
    · cases h
theorem vecG_lt {lim : Nat} {V : St → Res (List Wd)} {o : Nat} {s : St} {c : Int} {l : List Int} {x : Wd} {s' : St} (hV : ∀ s x s', V s = .ok x s' → s'.rest <:+ s.rest) (hs : s.rest = c :: l) (h : vecG lim V o s = .ok x s') : Lt s.rest s'.rest := by
  unfold vecG at h
  split at h
  · cases h
  · split at h
    · rename_i l' s2 he
      have hl := hV _ _ _ he
      split at h <;> cases h
      rw [hs] at hl ⊢
      exact Lt.tail.suf hl
    · cases h
theorem prefG_lt {lim : Nat} {F : St → Res Wd} {o len : Nat} {n : Int} {s : St} {c : Int} {l : List Int} {x : Wd} {s' : St} (hF : ∀ s x s', F s = .ok x s' → Lt s.rest s'.rest) (hlen : 1 ≤ len) (hs : s.rest = c :: l) (h : prefG lim F o n len s = .ok x s') : Lt s.rest s'.rest := by
  unfold prefG at h
  split at h
  · cases h
  · split at h
    · rename_i y s2 he
      have hl := hF _ _ _ he
      split at h
      · rename_i z s3 he2
        rw [consG_suf h, consG_suf he2]
        rw [hs] at hl ⊢
        exact (Lt.drop hlen).trans hl
      · cases h
    · cases h
theorem formG_lt {lim : Nat} {F : St → Res Wd} {E : St → Res (List Wd × Wd)} {V : St → Res (List Wd)} {o : Nat} {s : St} {x : Wd} {s' : St} (hF : ∀ s x s', F s = .ok x s' → Lt s.rest s'.rest) (hE : ∀ s x s', E s = .ok x s' → s'.rest <:+ s.rest)
    (hV : ∀ s x s', V s = .ok x s' → s'.rest <:+ s.rest) (h : formG lim F E V o s = .ok x s') : Lt s.rest s'.rest := by
  unfold formG at h
  split at h
  · cases h
  · rename_i c r hk
    have hsuf := skipF_suf s.rest false
    obtain ⟨n1, n2⟩ := skipF_head _ _ _ _ hk
    rw [hk] at hsuf
    refine .of_suf hsuf ?_
    unfold headG at h
    split at h
    · exact listG_lt hE rfl h
    · split at h
      · cases h
      · split at h
        · exact vecG_lt hV rfl h
        · split at h
          · exact prefG_lt hF (Nat.le_refl _) rfl h
          · split at h
            · exact prefG_lt hF (Nat.le_refl _) rfl h
            · split at h
              · unfold commaG at h
                split at h
                · exact prefG_lt hF (by omega) rfl h
                · exact prefG_lt hF (Nat.le_refl _) rfl h
              · split at h
                · unfold hashG at h
                  split at h
                  · exact prefG_lt hF (by omega) rfl h
                  · split at h
                    · rw [symG_suf h]; exact Lt.drop (by omega)
                    · cases h
                · split at h
                  · exact textG_lt rfl h
                  · split at h
                    · exact charG_lt rfl h
                    · rename_i k1 k2 k3 k4 k5 k6 k7 k8 k9
                      refine tokenG_lt rfl ?_ h
                      simp only [not_or] at k2
                      simp [delimB, n2, n1, k1, k2, k3, k4, k5, k6, k8]
theorem elemG_suf {F : St → Res Wd} {E : List Wd → St → Res (List Wd × Wd)} {acc : List Wd} {s : St} {x : List Wd × Wd} {s' : St} (hF : ∀ s x s', F s = .ok x s' → Lt s.rest s'.rest) (hE : ∀ a s x s', E a s = .ok x s' → s'.rest <:+ s.rest)
    (h : elemG F E acc s = .ok x s') : s'.rest <:+ s.rest := by
  have hsuf := skipF_suf s.rest false
  unfold elemG at h
  split at h
  · cases h; exact (List.tail_suffix _).trans hsuf
  · split at h
    · unfold tailG at h
      split at h
      · rename_i y s2 he
        have hl := (hF _ _ _ he).1
        split at h
        · cases h
        · rename_i d r hk
          have h3 := skipF_suf s2.rest false
          rw [hk] at h3
          split at h <;> cases h
          exact ((((List.suffix_cons _ _).trans h3).trans hl).trans (List.tail_suffix _)).trans hsuf
      · cases h
    · split at h
      · rename_i y s2 he
        exact ((hE _ _ _ _ h).trans (hF _ _ _ he).1).trans hsuf
      · cases h
theorem eachG_suf {F : St → Res Wd} {V : List Wd → St → Res (List Wd)} {acc : List Wd} {s : St} {x : List Wd} {s' : St} (hF : ∀ s x s', F s = .ok x s' → Lt s.rest s'.rest) (hV : ∀ a s x s', V a s = .ok x s' → s'.rest <:+ s.rest)
    (h : eachG F V acc s = .ok x s') : s'.rest <:+ s.rest := by
  have hsuf := skipF_suf s.rest false
  unfold eachG at h
  split at h
  · cases h; exact (List.tail_suffix _).trans hsuf
  · split at h
    · rename_i y s2 he
      exact ((hV _ _ _ _ h).trans (hF _ _ _ he).1).trans hsuf
    · cases h
theorem M_suf (lim : Nat) : ∀ k, (∀ o s x s', formM lim k o s = .ok x s' → Lt s.rest s'.rest) ∧ (∀ o a s x s', elemM lim k o a s = .ok x s' → s'.rest <:+ s.rest) ∧ ∀ o a s x s', eachM lim k o a s = .ok x s' → s'.rest <:+ s.rest
  | 0 => ⟨fun _ _ _ _ h => (by cases h), fun _ _ _ _ _ h => (by cases h), fun _ _ _ _ _ h => (by cases h)⟩
  | k + 1 => by
    obtain ⟨h1, h2, h3⟩ := M_suf lim k
    refine ⟨fun o s x s' h => ?_, fun o a s x s' h => ?_, fun o a s x s' h => ?_⟩
    · rw [formM_succ] at h
      exact formG_lt (h1 _) (h2 _ _) (h3 _ _) h
    · rw [elemM_succ] at h
      exact elemG_suf (h1 _) (h2 _) h
    · rw [eachM_succ] at h
      exact eachG_suf (h1 _) (h3 _) h
theorem formM_lt {lim k o : Nat} {s s' : St} {x : Wd} (h : formM lim k o s = .ok x s') : Lt s.rest s'.rest := (M_suf lim k).1 o s x s' h
end Go.Proofs.YtlibdhnlmekmhaaGreatDoor.Rd
end
