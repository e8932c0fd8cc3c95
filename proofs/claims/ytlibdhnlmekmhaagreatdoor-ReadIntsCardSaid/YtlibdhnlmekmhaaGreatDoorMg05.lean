/- The contract of Intern. | Plain mathematics of heaps of objects: words, objects, what a word refers to, what is reachable, sums of sizes. | Plain mathematics of package container/heap: sifting up and down in a row of numbers. -/
import Init
import Derived.Test.YtlibdhnlmekmhaaGreatDoorMg04
/- The contract of Intern. -/
section
namespace Go.Proofs.YtlibdhnlmekmhaaGreatDoor.Nt
set_option maxRecDepth 100000
open Go.RowKit Go.Lib Go.Shelf
open Go.Proofs.YtlibdhnlmekmhaaGreatDoor.Own Go.Proofs.YtlibdhnlmekmhaaGreatDoor.Strs

/-- What Intern returns, and the table behind it. -/
def internO (t : Tb) (s : ByteArray) : Int × Int × Tb :=
  match t.find s with
  | some n => ((n : Int), 0, t)
  | none => if (freshO t s).2.1 = 0 then (t.syms.length, 0, ⟨t.syms ++ [newSy s], upd t.find s t.syms.length⟩) else (0, (freshO t s).2.1, t)

theorem freshO_ok {t : Tb} {s : ByteArray} (h : (freshO t s).2.1 = 0) : freshO t s = ((t.syms.length : Int), 0, ⟨t.syms ++ [newSy s], t.find⟩) ∧ validD s.data.toList = true ∧ lenL s.data.toList ≤ 1000 ∧ t.syms.length < 16384 := by
  unfold freshO at h ⊢
  split at h
  · cases h
  · rename_i hv
    split at h
    · cases h
    · split at h
      · cases h
      · rename_i h1 h2
        rw [if_neg hv, if_neg h1, if_neg h2]
        exact ⟨rfl, by simpa using hv, by omega, by omega⟩
theorem freshO_err {t : Tb} {s : ByteArray} (h : (freshO t s).2.1 ≠ 0) : (freshO t s).1 = 0 ∧ (freshO t s).2.2 = t := by
  unfold freshO at h ⊢
  split
  · exact ⟨rfl, rfl⟩
  · split
    · exact ⟨rfl, rfl⟩
    · split
      · exact ⟨rfl, rfl⟩
      · rename_i h1 h2 h3
        rw [if_neg h1, if_neg h2, if_neg h3] at h
        exact absurd rfl h

/-- The table behind a store into its map. -/
theorem TabIs.stored {w w' : World} {base tp n m : Nat} {t : Tb} {lab : Nat → Option TLab} {P : TParts} {s : ByteArray} {y : Sy} (h : TabIs w base tp t lab P) (hk : Keeps (fun b => b = P.mb) w w') (hm : MapIs w' P.mb (upd t.find s n) m) (hle : m ≤ t.syms.length) (hy : t.syms[n]? = some y) (hn : y.name = s) :
    TabOk w w' base tp ⟨t.syms, upd t.find s n⟩ lab := by
  have hF : ∀ b k, lab b = some k → k ≠ .map → ¬ (b = P.mb) := fun b k hl hne e => by
    subst e
    rw [h.mlab] at hl
    cases hl
    exact hne rfl
  refine ⟨lab, P, { h with
    inb := fun b l hl => ⟨(h.inb b l hl).1, Nat.lt_of_lt_of_le (h.inb b l hl).2 hk.size⟩
    blk := h.blk.keeps hk (hF _ _ h.hdr (by simp))
    map := hm.mono hle
    syms := owns_keeps h.syms hk fun k hv => hF _ _ (h.slab k hv) (by simp)
    props := fun i s hs => owns_keeps (h.props i s hs) hk fun k hv => hF _ _ (h.plab i k hv) (by simp)
    found := fun u k hu => ?_ }, ⟨hk.mono fun b _ e => ?_, fun b hb => .inl hb⟩⟩
  · simp only [upd] at hu
    split at hu
    · rename_i e
      cases hu
      exact ⟨y, hy, by rw [e, hn]⟩
    · exact h.found u k hu
  · subst e
    unfold TOf
    rw [h.mlab]
    simp

theorem intern_null (s : ByteArray) (w : World) : Calls Tryz.prog 147 #[.pointer none, .string s] w fun e w' => e = .returned (.tuple #[.int .i64 0, .int .i64 1]) ∧ w = w' := by
  have HV := Lib.hid (find_null s)
  have HW := Lib.hid (fresh_null s)
  go_enter Tryz.func147, Tryz.ntmps147
  go_wp2_with (first
    | (go_at_call 186; refine (HV.out _).mono ?_; rintro e w' ⟨rfl, rfl⟩)
    | (go_at_call 187; refine (HW.out _).mono ?_; rintro e w' ⟨rfl, rfl⟩))
  go_ret2
  exact ⟨rfl, rfl⟩
set_option maxHeartbeats 1000000 in
theorem intern_hit {w : World} {base tp : Nat} {t : Tb} {lab : Nat → Option TLab} {P : TParts} (h : TabIs w base tp t lab P) (s : ByteArray) (hs : s.size ≤ maxLen) (n : Nat) (hf : t.find s = some n) :
    Calls Tryz.prog 147 #[tptr tp, .string s] w fun e w' => e = .returned (.tuple #[.int .i64 (n : Int), .int .i64 0]) ∧ w = w' := by
  have h1 := find_any h s hs
  rw [hf] at h1
  have H1 := Lib.hid h1
  clear h1 h
  go_enter Tryz.func147, Tryz.ntmps147
  go_wp2_with (first
    | (go_at_call 186; refine H1.out.mono ?_; rintro e w' ⟨rfl, rfl⟩))
  go_ret2
  exact ⟨by simp, rfl⟩
set_option maxHeartbeats 1000000 in
theorem intern_err {w : World} {base tp : Nat} {t : Tb} {lab : Nat → Option TLab} {P : TParts} (h : TabIs w base tp t lab P) (hb : base ≤ w.heap.size) (s : ByteArray) (hs : s.size ≤ 4611686018427387904) (hT : Tabs w) (hf : t.find s = none) (hc : (freshO t s).2.1 ≠ 0) :
    Calls Tryz.prog 147 #[tptr tp, .string s] w fun e w' => e = .returned (.tuple #[.int .i64 0, .int .i64 (freshO t s).2.1]) ∧ TabOk w w' base tp t lab := by
  have h1 := find_any h s (by unfold maxLen; omega)
  rw [hf] at h1
  have h2 := fresh_any h hb s hs hT
  obtain ⟨e1, e2⟩ := freshO_err hc
  rw [e1, e2] at h2
  generalize (freshO t s).2.1 = c at *
  have H1 := Lib.hid h1
  have H2 := Lib.hid h2
  have hd : (c != 0) = true := by simpa using hc
  clear h1 h h2 hc e1 e2
  go_enter Tryz.func147, Tryz.ntmps147
  go_wp2_with (first
    | (go_at_call 186; refine H1.out.mono ?_; rintro e w' ⟨rfl, rfl⟩)
    | (go_at_call 187; refine H2.out.mono ?_; rintro e w2 ⟨rfl, h2⟩))
  go_ret2
  exact ⟨rfl, h2.ok⟩
set_option maxHeartbeats 2000000 in
theorem intern_new {w : World} {base tp : Nat} {t : Tb} {lab : Nat → Option TLab} {P : TParts} (h : TabIs w base tp t lab P) (hb : base ≤ w.heap.size) (s : ByteArray) (hs : s.size ≤ 4611686018427387904) (hT : Tabs w) (hf : t.find s = none) (hc : (freshO t s).2.1 = 0) :
    Calls Tryz.prog 147 #[tptr tp, .string s] w fun e w' => e = .returned (.tuple #[.int .i64 (t.syms.length : Int), .int .i64 0]) ∧ TabOk w w' base tp ⟨t.syms ++ [newSy s], upd t.find s t.syms.length⟩ lab := by
  have h1 := find_any h s (by unfold maxLen; omega)
  rw [hf] at h1
  have h2 := fresh_any h hb s hs hT
  obtain ⟨e1, hv, hl, hm⟩ := freshO_ok hc
  rw [e1] at h2
  obtain ⟨m, hme⟩ : ∃ m, t.syms.length = m := ⟨_, rfl⟩
  rw [hme] at h2
  have H1 := Lib.hid h1
  have H2 := Lib.hid h2
  have HM := Lib.hid hme
  rw [hme] at hm ⊢
  clear h1 h h2 hc e1 hf hv hl hme
  go_enter Tryz.func147, Tryz.ntmps147
  go_wp2_with (first
    | (go_at_call 186; refine H1.out.mono ?_; rintro e w' ⟨rfl, rfl⟩)
    | (go_at_call 187; refine H2.out.mono ?_; rintro e w2 ⟨rfl, lab2, P2, hI2, hA2, hm2⟩))
  have hy : (t.syms ++ [newSy s])[m]? = some (newSy s) := by rw [← HM.out]; simp
  obtain ⟨g, cap, hv, hg, hr⟩ := hI2.symRow m (newSy s) hy
  obtain ⟨c2', _⟩ := sy_cells hr m (newSy s) hy
  obtain ⟨c0', c1⟩ := hI2.two
  rw [hv] at c0'
  have hlen : (t.syms ++ [newSy s]).length = m + 1 := by rw [List.length_append, HM.out]; rfl
  have e0 : (Value.slice (some ⟨g, 0, none⟩) (t.syms ++ [newSy s]).length cap) = .slice (some ⟨g, 0, none⟩) (m + 1) cap := by rw [hlen]
  have c0 := c0'.trans (congrArg some e0)
  have c2 : w2.cell? ⟨g, m * 5, none⟩ = some (.string s) := c2'
  clear c0' c2'
  obtain ⟨w3, hrun, hm3, hg3⟩ := (show MapIs w2.drew P2.mb t.find m from hm2).store (by unfold maxLen; omega) s (by unfold maxLen; omega) m (by omega)
  have hk3 : Keeps (fun b => b = P2.mb) w2 w3 := (Keeps.refl _ w2).trans ((Keeps.of_below (show Below w2.heap.size w2 w2.drew from ⟨rfl, rfl, rfl, Nat.le_refl _, fun _ _ => rfl⟩)).trans (keeps_of_grown hg3))
  obtain ⟨lab3, P3, hI3, hA3⟩ := hI2.stored hk3 hm3 (by rw [hlen]; omega) hy rfl
  have HF := Lib.hid (show TabOk w w3 base tp ⟨t.syms ++ [newSy s], upd t.find s m⟩ lab from ⟨lab3, P3, hI3, hA2.trans hA3⟩)
  clear hI2 hA2 hm2 hr hm3 hg3 hk3 hI3 hA3 hg
  have hmz : (m : Int) < (m : Int) + 1 := by omega
  have hmz2 : m < m + 1 := by omega
  go_region_law ((refine step_mapUpdate (w := w2.drew) rfl (.tmp 30) (.tmp 38) (.tmp 39) 107 rfl (.map (some P2.mb)) (.string s) (.int .i64 (m : Int)) rfl rfl rfl w3 hrun ?_))
  all_goals (
    go_wp2_with fail
    go_ret2
    exact ⟨rfl, HF.out⟩)

/-- The contract of Intern. -/
theorem intern_any {w : World} {base tp : Nat} {t : Tb} {lab : Nat → Option TLab} {P : TParts} (h : TabIs w base tp t lab P) (hb : base ≤ w.heap.size) (s : ByteArray) (hs : s.size ≤ 4611686018427387904) (hT : Tabs w) :
    Calls Tryz.prog 147 #[tptr tp, .string s] w fun e w' => e = .returned (.tuple #[.int .i64 (internO t s).1, .int .i64 (internO t s).2.1]) ∧ TabOk w w' base tp (internO t s).2.2 lab := by
  unfold internO
  cases hf : t.find s with
  | some n => exact (intern_hit h s (by unfold maxLen; omega) n hf).mono fun e w' ⟨he, hw⟩ => ⟨he, by subst hw; exact ⟨lab, P, h, .refl _ _⟩⟩
  | none =>
    simp only
    by_cases hc : (freshO t s).2.1 = 0
    · rw [if_pos hc]
      exact intern_new h hb s hs hT hf hc
    · rw [if_neg hc]
      exact intern_err h hb s hs hT hf hc
end Go.Proofs.YtlibdhnlmekmhaaGreatDoor.Nt
end

/- Plain mathematics of heaps of objects: words, objects, what a word refers to, what is reachable, sums of sizes. -/
section
namespace Go.Proofs.YtlibdhnlmekmhaaGreatDoor.Hp

/-- A word: its kind and its number. -/
abbrev Wd := Int × Int

/-- An object. A text bears the number of its characters. -/
inductive Ob where
  | cons (a d : Wd)
  | text (s : ByteArray) (n : Nat)
  | vec (l : List Wd)
  | code (p q r : Int) (b : List Int) (l : List Wd)

def Ob.kind : Ob → Int
  | .cons .. => 2
  | .text .. => 3
  | .vec .. => 4
  | .code .. => 6
def Ob.size : Ob → Nat
  | .cons .. => 0
  | .text _ n => n
  | .vec l => l.length
  | .code _ _ _ b l => b.length + l.length
def Ob.words : Ob → List Wd
  | .cons a d => [a, d]
  | .text .. => []
  | .vec l => l
  | .code _ _ _ _ l => l

/-- The objects of a heap by their numbers. -/
abbrev Obs := Nat → Option Ob

def sizeO : Option Ob → Nat
  | some o => o.size
  | none => 0

/-- The sizes of the first n objects together. -/
def usedTo (f : Obs) : Nat → Nat
  | 0 => 0
  | n + 1 => usedTo f n + sizeO (f n)
/-- How many of the first n numbers have an object. -/
def manyTo (f : Obs) : Nat → Nat
  | 0 => 0
  | n + 1 => manyTo f n + (if (f n).isSome then 1 else 0)
/-- The first number from 0 on, below n, that has no object; n if there is none. -/
def freeTo (f : Obs) : Nat → Nat
  | 0 => 0
  | n + 1 => if freeTo f n < n then freeTo f n else if (f n).isSome then n + 1 else n

def put (f : Obs) (n : Nat) (o : Option Ob) : Obs := fun i => if i = n then o else f i

theorem put_same (f : Obs) (n : Nat) (o : Option Ob) : put f n o n = o := by simp [put]
theorem put_other (f : Obs) (n i : Nat) (o : Option Ob) (h : i ≠ n) : put f n o i = f i := by simp [put, h]

theorem usedTo_congr (f g : Obs) (n : Nat) (h : ∀ i, i < n → f i = g i) : usedTo f n = usedTo g n := by
  induction n with
  | zero => rfl
  | succ n ih => simp only [usedTo]; rw [ih fun i hi => h i (by omega), h n (by omega)]
theorem manyTo_congr (f g : Obs) (n : Nat) (h : ∀ i, i < n → f i = g i) : manyTo f n = manyTo g n := by
  induction n with
  | zero => rfl
  | succ n ih => simp only [manyTo]; rw [ih fun i hi => h i (by omega), h n (by omega)]
theorem usedTo_put (f : Obs) (n m : Nat) (o : Option Ob) (h : m < n) : usedTo (put f m o) n + sizeO (f m) = usedTo f n + sizeO o := by
  induction n with
  | zero => omega
  | succ n ih =>
    simp only [usedTo]
    by_cases hm : m = n
    · subst hm
      rw [put_same, usedTo_congr (put f m o) f m fun i hi => put_other f m i o (by omega)]
      omega
    · rw [put_other f m n o (by omega)]
      have := ih (by omega)
      omega
theorem manyTo_put (f : Obs) (n m : Nat) (o : Option Ob) (h : m < n) : manyTo (put f m o) n + (if (f m).isSome then 1 else 0) = manyTo f n + (if o.isSome then 1 else 0) := by
  induction n with
  | zero => omega
  | succ n ih =>
    simp only [manyTo]
    by_cases hm : m = n
    · subst hm
      rw [put_same, manyTo_congr (put f m o) f m fun i hi => put_other f m i o (by omega)]
      omega
    · rw [put_other f m n o (by omega)]
      have := ih (by omega)
      omega
theorem usedTo_more (f : Obs) (m n : Nat) (h : m ≤ n) (hn : ∀ i, m ≤ i → f i = none) : usedTo f n = usedTo f m := by
  induction n with
  | zero => have : m = 0 := by omega
            rw [this]
  | succ n ih =>
    by_cases hm : m = n + 1
    · rw [hm]
    · simp only [usedTo]
      rw [ih (by omega), hn n (by omega)]
      rfl
theorem manyTo_more (f : Obs) (m n : Nat) (h : m ≤ n) (hn : ∀ i, m ≤ i → f i = none) : manyTo f n = manyTo f m := by
  induction n with
  | zero => have : m = 0 := by omega
            rw [this]
  | succ n ih =>
    by_cases hm : m = n + 1
    · rw [hm]
    · simp only [manyTo]
      rw [ih (by omega), hn n (by omega)]
      rfl
theorem manyTo_le (f : Obs) (n : Nat) : manyTo f n ≤ n := by
  induction n with
  | zero => simp [manyTo]
  | succ n ih => simp only [manyTo]; split <;> omega
theorem manyTo_full (f : Obs) (n : Nat) (h : manyTo f n = n) : ∀ i, i < n → (f i).isSome = true := by
  induction n with
  | zero => intro i hi; omega
  | succ n ih =>
    have hl := manyTo_le f n
    simp only [manyTo] at h
    intro i hi
    by_cases hs : (f n).isSome
    · by_cases hin : i = n
      · subst hin; exact hs
      · rw [if_pos hs] at h
        exact ih (by omega) i (by omega)
    · rw [if_neg hs] at h; omega
theorem manyTo_all (f : Obs) (n : Nat) (h : ∀ i, i < n → (f i).isSome = true) : manyTo f n = n := by
  induction n with
  | zero => rfl
  | succ n ih =>
    simp only [manyTo]
    rw [ih fun i hi => h i (by omega), if_pos (h n (by omega))]
theorem manyTo_lt (f : Obs) (n m : Nat) (hm : m < n) (h : f m = none) : manyTo f n < n := by
  have := manyTo_le f n
  rcases Nat.lt_or_ge (manyTo f n) n with h1 | h1
  · exact h1
  · have := manyTo_full f n (by omega) m hm
    rw [h] at this
    cases this
theorem usedTo_at (f : Obs) (n m : Nat) (h : m < n) : sizeO (f m) ≤ usedTo f n := by
  induction n with
  | zero => omega
  | succ n ih =>
    simp only [usedTo]
    by_cases hm : m = n
    · subst hm; omega
    · have := ih (by omega); omega

/-- The first free number: what it is. -/
theorem freeTo_spec (f : Obs) (n : Nat) : freeTo f n ≤ n ∧ (∀ i, i < freeTo f n → (f i).isSome = true) ∧ (freeTo f n < n → f (freeTo f n) = none) := by
  induction n with
  | zero => simp [freeTo]
  | succ n ih =>
    obtain ⟨h1, h2, h3⟩ := ih
    simp only [freeTo]
    by_cases h : freeTo f n < n
    · rw [if_pos h]
      exact ⟨by omega, h2, fun _ => h3 h⟩
    · rw [if_neg h]
      have hn : freeTo f n = n := by omega
      by_cases hs : (f n).isSome = true
      · rw [if_pos hs]
        refine ⟨by omega, fun i hi => ?_, fun hh => by omega⟩
        by_cases hin : i = n
        · subst hin; exact hs
        · exact h2 i (by omega)
      · rw [if_neg hs]
        exact ⟨by omega, fun i hi => h2 i (by omega), fun _ => by simpa using hs⟩
theorem freeTo_unique (f : Obs) (n m : Nat) (hm : m ≤ n) (h1 : ∀ i, i < m → (f i).isSome = true) (h2 : m < n → f m = none) : freeTo f n = m := by
  obtain ⟨g1, g2, g3⟩ := freeTo_spec f n
  rcases Nat.lt_trichotomy (freeTo f n) m with h | h | h
  · have := h1 _ h
    rw [g3 (by omega)] at this
    cases this
  · exact h
  · have := g2 _ h
    rw [h2 (by omega)] at this
    cases this
theorem freeTo_lt_iff (f : Obs) (n : Nat) : freeTo f n < n ↔ manyTo f n ≠ n := by
  obtain ⟨g1, g2, g3⟩ := freeTo_spec f n
  constructor
  · intro h hm
    have := manyTo_full f n hm _ h
    rw [g3 h] at this
    cases this
  · intro h
    rcases Nat.lt_or_ge (freeTo f n) n with h1 | h1
    · exact h1
    · exact absurd (manyTo_all f n fun i hi => g2 i (by omega)) h

/-- The object that a word of a kind and a number refers to. -/
def findO (f : Obs) (w : Wd) : Option Ob :=
  if 0 ≤ w.2 then (match f w.2.toNat with | some o => if o.kind = w.1 then some o else none | none => none) else none

theorem findO_some {f : Obs} {w : Wd} {o : Ob} (h : findO f w = some o) : 0 ≤ w.2 ∧ f w.2.toNat = some o ∧ o.kind = w.1 := by
  unfold findO at h
  split at h
  · rename_i h0
    split at h
    · rename_i o' ho
      split at h
      · rename_i hk
        cases h
        exact ⟨h0, ho, hk⟩
      · cases h
    · cases h
  · cases h
theorem findO_mk {f : Obs} {w : Wd} {o : Ob} (h0 : 0 ≤ w.2) (h : f w.2.toNat = some o) (hk : o.kind = w.1) : findO f w = some o := by
  unfold findO
  rw [if_pos h0, h]
  simp [hk]
theorem findO_none {f : Obs} {w : Wd} (h : 0 ≤ w.2 → ∀ o, f w.2.toNat = some o → o.kind ≠ w.1) : findO f w = none := by
  cases hf : findO f w with
  | none => rfl
  | some o =>
    obtain ⟨h0, h1, h2⟩ := findO_some hf
    exact absurd h2 (h h0 o h1)

/-- What is reachable from words. -/
inductive Reach (f : Obs) (roots : List Wd) : Nat → Prop
  | root (w : Wd) (o : Ob) : w ∈ roots → findO f w = some o → Reach f roots w.2.toNat
  | step (m : Nat) (p : Ob) (w : Wd) (o : Ob) : Reach f roots m → f m = some p → w ∈ p.words → findO f w = some o → Reach f roots w.2.toNat

theorem Reach.has {f : Obs} {roots : List Wd} {n : Nat} (h : Reach f roots n) : ∃ o, f n = some o := by
  cases h with
  | root w o _ h => exact ⟨o, (findO_some h).2.1⟩
  | step m p w o _ _ _ h => exact ⟨o, (findO_some h).2.1⟩

open Classical in
/-- What a collection leaves. -/
noncomputable def collected (f : Obs) (roots : List Wd) : Obs := fun n => if Reach f roots n then f n else none

/-- Marks that are closed under 'contains' and hold the roots, and hold nothing but what is reachable, tell what a collection leaves. -/
theorem collected_of_marks (f : Obs) (roots : List Wd) (m : Nat → Bool) (h1 : ∀ n, m n = true → Reach f roots n)
    (h2 : ∀ w o, w ∈ roots → findO f w = some o → m w.2.toNat = true) (h3 : ∀ n p w o, m n = true → f n = some p → w ∈ p.words → findO f w = some o → m w.2.toNat = true) :
    ∀ n, collected f roots n = if m n = true then f n else none := by
  intro n
  have h : Reach f roots n → m n = true := by
    intro hr
    induction hr with
    | root w o hw hf => exact h2 w o hw hf
    | step a p w o _ hp hw hf ih => exact h3 a p w o ih hp hw hf
  unfold collected
  by_cases hm : m n = true
  · rw [if_pos hm, if_pos (h1 n hm)]
  · rw [if_neg hm, if_neg fun hr => hm (h hr)]
end Go.Proofs.YtlibdhnlmekmhaaGreatDoor.Hp
end

/- Plain mathematics of package container/heap: sifting up and down in a row of numbers. -/
section
namespace Go.Proofs.YtlibdhnlmekmhaaGreatDoor.HeapOrd

/-- No number is less than the one at its parent's index. -/
def Ord (f : Nat → Nat) (n : Nat) : Prop := ∀ k, 0 < k → k < n → f ((k - 1) / 2) ≤ f k
def swap (f : Nat → Nat) (i j : Nat) : Nat → Nat := fun k => if k = i then f j else if k = j then f i else f k
def Inj (f : Nat → Nat) (n : Nat) : Prop := ∀ a b, a < n → b < n → f a = f b → a = b
/-- The same numbers, in another order. -/
structure Sames (n : Nat) (f g : Nat → Nat) : Prop where
  mem : ∀ x, (∃ k, k < n ∧ g k = x) ↔ (∃ k, k < n ∧ f k = x)
  inj : Inj f n → Inj g n

theorem Sames.refl (n : Nat) (f : Nat → Nat) : Sames n f f := ⟨fun _ => Iff.rfl, id⟩
theorem Sames.trans {n : Nat} {f g h : Nat → Nat} (a : Sames n f g) (b : Sames n g h) : Sames n f h := ⟨fun x => (b.mem x).trans (a.mem x), fun hi => b.inj (a.inj hi)⟩

theorem swap_at (f : Nat → Nat) (i j k : Nat) : swap f i j k = f (if k = i then j else if k = j then i else k) := by
  unfold swap; split <;> (try split) <;> rfl
theorem swap_ne (f : Nat → Nat) {i j k : Nat} (h1 : k ≠ i) (h2 : k ≠ j) : swap f i j k = f k := by simp [swap, h1, h2]
theorem swap_left (f : Nat → Nat) (i j : Nat) : swap f i j i = f j := by simp [swap]
theorem swap_right (f : Nat → Nat) (i j : Nat) : swap f i j j = f i := by
  unfold swap; split <;> simp_all

theorem sames_swap (n : Nat) (f : Nat → Nat) (i j : Nat) (hi : i < n) (hj : j < n) : Sames n f (swap f i j) := by
  constructor
  · intro x
    constructor
    · rintro ⟨k, hk, rfl⟩
      rw [swap_at]
      refine ⟨_, ?_, rfl⟩
      split <;> (try split) <;> omega
    · rintro ⟨k, hk, rfl⟩
      refine ⟨if k = i then j else if k = j then i else k, by split <;> (try split) <;> omega, ?_⟩
      rw [swap_at]
      congr 1
      split <;> (try split) <;> (try split) <;> (try split) <;> omega
  · intro h a b ha hb hab
    rw [swap_at, swap_at] at hab
    have := h _ _ (by split <;> (try split) <;> omega) (by split <;> (try split) <;> omega) hab
    split at this <;> (try split at this) <;> (try split at this) <;> (try split at this) <;> omega

structure UpInv (f : Nat → Nat) (n j : Nat) : Prop where
  lt : j < n
  other : ∀ k, 0 < k → k < n → k ≠ j → f ((k - 1) / 2) ≤ f k
  under : ∀ k, 0 < k → k < n → (k - 1) / 2 = j → 0 < j → f ((j - 1) / 2) ≤ f k

theorem UpInv.stop {f : Nat → Nat} {n j : Nat} (h : UpInv f n j) (hj : j = 0 ∨ f ((j - 1) / 2) ≤ f j) : Ord f n := by
  intro k h0 hk
  by_cases e : k = j
  · subst e
    rcases hj with hj | hj
    · omega
    · exact hj
  · exact h.other k h0 hk e
theorem UpInv.step {f : Nat → Nat} {n j : Nat} (h : UpInv f n j) (h0 : 0 < j) (hj : f j < f ((j - 1) / 2)) : UpInv (swap f ((j - 1) / 2) j) n ((j - 1) / 2) := by
  have hlt := h.lt
  generalize hi : (j - 1) / 2 = i at *
  have hij : i < j := by omega
  refine ⟨by omega, ?_, ?_⟩
  · intro k hk0 hk hki
    by_cases hkj : k = j
    · subst hkj
      rw [hi, swap_left, swap_right]
      omega
    · rw [swap_ne f hki hkj]
      by_cases hp : (k - 1) / 2 = j
      · rw [hp, swap_right]
        have := h.under k hk0 hk hp h0
        rwa [hi] at this
      · by_cases hp2 : (k - 1) / 2 = i
        · rw [hp2, swap_left]
          have := h.other k hk0 hk hkj
          rw [hp2] at this
          omega
        · rw [swap_ne f hp2 hp]
          exact h.other k hk0 hk hkj
  · intro k hk0 hk hp hi0
    have hpi : (i - 1) / 2 ≠ i := by omega
    have hpj : (i - 1) / 2 ≠ j := by omega
    rw [swap_ne f hpi hpj]
    have h1 := h.other i hi0 (by omega) (by omega)
    by_cases hkj : k = j
    · subst hkj
      rw [swap_right]
      exact h1
    · rw [swap_ne f (by omega) hkj]
      have := h.other k hk0 hk hkj
      rw [hp] at this
      omega

structure DownInv (f : Nat → Nat) (n i : Nat) : Prop where
  other : ∀ k, 0 < k → k < n → (k - 1) / 2 ≠ i → f ((k - 1) / 2) ≤ f k
  under : ∀ k, 0 < k → k < n → (k - 1) / 2 = i → 0 < i → f ((i - 1) / 2) ≤ f k

theorem DownInv.leaf {f : Nat → Nat} {n i : Nat} (h : DownInv f n i) (hi : n ≤ 2 * i + 1) : Ord f n := fun k h0 hk => h.other k h0 hk (by omega)
theorem DownInv.stop {f : Nat → Nat} {n i : Nat} (h : DownInv f n i) (h1 : 2 * i + 1 < n → f i ≤ f (2 * i + 1)) (h2 : 2 * i + 2 < n → f i ≤ f (2 * i + 2)) : Ord f n := by
  intro k h0 hk
  by_cases e : (k - 1) / 2 = i
  · rw [e]
    rcases (by omega : k = 2 * i + 1 ∨ k = 2 * i + 2) with rfl | rfl
    · exact h1 hk
    · exact h2 hk
  · exact h.other k h0 hk e
/-- The lesser child goes up. -/
theorem DownInv.step {f : Nat → Nat} {n i j : Nat} (h : DownInv f n i) (hj : j < n) (hc : j = 2 * i + 1 ∨ j = 2 * i + 2) (hlt : f j < f i)
    (h1 : f j ≤ f (2 * i + 1)) (h2 : 2 * i + 2 < n → f j ≤ f (2 * i + 2)) : DownInv (swap f i j) n j := by
  constructor
  · intro k hk0 hk hp
    by_cases hki : k = i
    · subst hki
      rw [swap_left, swap_ne f (by omega) (by omega)]
      exact h.under j (by omega) hj (by omega) hk0
    · by_cases hp2 : (k - 1) / 2 = i
      · rw [hp2, swap_left]
        by_cases hkj : k = j
        · subst hkj; rw [swap_right]; omega
        · rw [swap_ne f hki hkj]
          rcases (by omega : k = 2 * i + 1 ∨ k = 2 * i + 2) with rfl | rfl
          · exact h1
          · exact h2 hk
      · rw [swap_ne f hp2 hp]
        by_cases hkj : k = j
        · omega
        · rw [swap_ne f hki hkj]
          exact h.other k hk0 hk hp2
  · intro k hk0 hk hp hj0
    have e : (j - 1) / 2 = i := by omega
    rw [e, swap_left, swap_ne f (by omega) (by omega)]
    have := h.other k hk0 hk (by omega)
    rwa [hp] at this

/-- The first number is the least. -/
theorem Ord.least {f : Nat → Nat} {n : Nat} (h : Ord f n) : ∀ k, k < n → f 0 ≤ f k := by
  intro k
  induction k using Nat.strongRecOn with
  | _ k ih =>
    intro hk
    by_cases h0 : k = 0
    · subst h0; exact Nat.le_refl _
    · exact Nat.le_trans (ih ((k - 1) / 2) (by omega) (by omega)) (h k (by omega) hk)
/-- A number put behind the last one: sift it up. -/
theorem Ord.push {f : Nat → Nat} {n : Nat} (h : Ord f n) : UpInv f (n + 1) n := ⟨by omega, fun k h0 hk hn => h k h0 (by omega), fun k h0 hk hp _ => by omega⟩
/-- The last number brought to the front: sift it down. -/
theorem Ord.pop {f : Nat → Nat} {n : Nat} (h : Ord f (n + 1)) : DownInv (swap f 0 n) n 0 := by
  constructor
  · intro k h0 hk hp
    rw [swap_ne f hp (by omega), swap_ne f (by omega) (by omega)]
    exact h k h0 (by omega)
  · intro k _ _ _ h0
    omega
/-- Numbers that are told by a row without repetition are as many as those that a test finds. -/
theorem count_of_row (f : Nat → Nat) (n m : Nat) (p : Nat → Bool) (hi : Inj f n) (hm : ∀ x, (∃ k, k < n ∧ f k = x) ↔ (x < m ∧ p x = true)) : n = ((List.range m).filter p).length := by
  have hp : ((List.range n).map f).Perm ((List.range m).filter p) := by
    apply (List.perm_ext_iff_of_nodup ?_ ?_).2
    · intro x
      simp only [List.mem_map, List.mem_range, List.mem_filter]
      exact hm x
    · rw [List.nodup_iff_pairwise_ne, List.pairwise_map]
      apply List.Pairwise.imp_of_mem ?_ (List.nodup_range (n := n))
      intro a b ha hb hne hab
      exact hne (hi a b (List.mem_range.1 ha) (List.mem_range.1 hb) hab)
    · exact List.Nodup.sublist List.filter_sublist List.nodup_range
  have := hp.length_eq
  simpa using this
end Go.Proofs.YtlibdhnlmekmhaaGreatDoor.HeapOrd
end
