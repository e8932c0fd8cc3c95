/- Plain mathematics of the marking of what is reachable, with a stack. -/
import Derived.Test.YtlibdhnlmekmhaaGreatDoorMh18
namespace Go.Proofs.YtlibdhnlmekmhaaGreatDoor.Dfs
open Go.Proofs.YtlibdhnlmekmhaaGreatDoor.Hp

structure S where
  mark : Nat → Bool
  st : List Nat

def markAt (f : Nat → Bool) (n : Nat) : Nat → Bool := fun i => if i = n then true else f i
/-- A word is visited. -/
def visitS (ob : Obs) (s : S) (x : Wd) : S := if (findO ob x).isSome && !s.mark x.2.toNat then ⟨markAt s.mark x.2.toNat, s.st ++ [x.2.toNat]⟩ else s
def eachS (ob : Obs) (s : S) (l : List Wd) : S := l.foldl (visitS ob) s
def unm (f : Nat → Bool) : Nat → Nat
  | 0 => 0
  | n + 1 => unm f n + (if f n then 0 else 1)

theorem unm_congr (f g : Nat → Bool) (n : Nat) (h : ∀ i, i < n → f i = g i) : unm f n = unm g n := by
  induction n with
  | zero => rfl
  | succ n ih => simp only [unm]; rw [ih fun i hi => h i (by omega), h n (by omega)]
theorem unm_mark (f : Nat → Bool) (n m : Nat) (h : m < n) (hf : f m = false) : unm (markAt f m) n + 1 = unm f n := by
  induction n with
  | zero => omega
  | succ n ih =>
    simp only [unm]
    by_cases hm : m = n
    · subst hm
      rw [unm_congr (markAt f m) f m fun i hi => by simp [markAt]; omega, hf]
      simp [markAt]
    · have := ih (by omega)
      have e : markAt f m n = f n := by simp [markAt]; omega
      rw [e]
      omega
theorem unm_le (f : Nat → Bool) (n : Nat) : unm f n ≤ n := by
  induction n with
  | zero => simp [unm]
  | succ n ih => simp only [unm]; split <;> omega

/-- What a visit does. -/
structure Went (ob : Obs) (M : Nat) (s s' : S) (l : List Wd) : Prop where
  mono : ∀ i, s.mark i = true → s'.mark i = true
  stack : ∃ new, s'.st = s.st ++ new ∧ ∀ n ∈ new, s'.mark n = true
  all : ∀ x ∈ l, ∀ o, findO ob x = some o → s'.mark x.2.toNat = true
  only : ∀ i, s'.mark i = true → s.mark i = true ∨ (i ∈ s'.st ∧ ∃ x ∈ l, ∃ o, findO ob x = some o ∧ x.2.toNat = i)
  less : 2 * unm s'.mark M + s'.st.length ≤ 2 * unm s.mark M + s.st.length

theorem visit_went (ob : Obs) (M : Nat) (hM : ∀ i, M ≤ i → ob i = none) (s : S) (x : Wd) : Went ob M s (visitS ob s x) [x] := by
  unfold visitS
  split
  · rename_i h
    simp only [Bool.and_eq_true, Bool.not_eq_true'] at h
    obtain ⟨h1, h2⟩ := h
    obtain ⟨o, ho⟩ := Option.isSome_iff_exists.1 h1
    have hlt : x.2.toNat < M := by
      obtain ⟨_, h3, _⟩ := findO_some ho
      rcases Nat.lt_or_ge x.2.toNat M with h4 | h4
      · exact h4
      · rw [hM _ h4] at h3; cases h3
    refine ⟨fun i hi => ?_, ⟨_, rfl, fun n hn => ?_⟩, fun y hy o' _ => ?_, fun i hi => ?_, ?_⟩
    · show (if i = x.2.toNat then true else s.mark i) = true
      split
      · rfl
      · exact hi
    · simp at hn
      subst hn
      show (if x.2.toNat = x.2.toNat then true else _) = true
      rw [if_pos rfl]
    · simp at hy
      subst hy
      show (if y.2.toNat = y.2.toNat then true else _) = true
      rw [if_pos rfl]
    · have hi : (if i = x.2.toNat then true else s.mark i) = true := hi
      split at hi
      · rename_i e
        exact .inr ⟨by simp [e], x, by simp, o, ho, e.symm⟩
      · exact .inl hi
    · have := unm_mark s.mark M x.2.toNat hlt h2
      simp only [List.length_append, List.length_singleton]
      omega
  · rename_i h
    refine ⟨fun i hi => hi, ⟨[], by simp, fun n hn => by simp at hn⟩, fun y hy o' ho' => ?_, fun i hi => .inl hi, Nat.le_refl _⟩
    simp at hy
    subst hy
    rw [ho'] at h
    simpa using h
theorem Went.trans {ob : Obs} {M : Nat} {a b c : S} {l m : List Wd} (h : Went ob M a b l) (k : Went ob M b c m) : Went ob M a c (l ++ m) := by
  obtain ⟨n1, e1, f1⟩ := h.stack
  obtain ⟨n2, e2, f2⟩ := k.stack
  refine ⟨fun i hi => k.mono i (h.mono i hi), ⟨n1 ++ n2, by rw [e2, e1, List.append_assoc], fun n hn => ?_⟩, fun x hx o ho => ?_, fun i hi => ?_, Nat.le_trans k.less h.less⟩
  · rcases List.mem_append.1 hn with hn | hn
    · exact k.mono n (f1 n hn)
    · exact f2 n hn
  · rcases List.mem_append.1 hx with hx | hx
    · exact k.mono _ (h.all x hx o ho)
    · exact k.all x hx o ho
  · rcases k.only i hi with hi | ⟨hi, x, hx, o, ho, e⟩
    · rcases h.only i hi with hi | ⟨hi, x, hx, o, ho, e⟩
      · exact .inl hi
      · exact .inr ⟨by rw [e2]; exact List.mem_append_left _ hi, x, List.mem_append_left _ hx, o, ho, e⟩
    · exact .inr ⟨hi, x, List.mem_append_right _ hx, o, ho, e⟩
theorem went_refl (ob : Obs) (M : Nat) (s : S) : Went ob M s s [] := ⟨fun _ h => h, ⟨[], by simp, fun _ h => by simp at h⟩, fun _ h => by simp at h, fun _ h => .inl h, Nat.le_refl _⟩
theorem each_went (ob : Obs) (M : Nat) (hM : ∀ i, M ≤ i → ob i = none) (l : List Wd) : ∀ s, Went ob M s (eachS ob s l) l := by
  induction l with
  | nil => intro s; exact went_refl ob M s
  | cons x l ih =>
    intro s
    exact (visit_went ob M hM s x).trans (ih (visitS ob s x))

/-- What holds between the rounds of the marking. -/
structure Inv (ob : Obs) (roots : List Wd) (s : S) : Prop where
  sound : ∀ n, s.mark n = true → Hp.Reach ob roots n
  stack : ∀ n ∈ s.st, s.mark n = true
  roots : ∀ x ∈ roots, ∀ o, findO ob x = some o → s.mark x.2.toNat = true
  closed : ∀ n p w o, s.mark n = true → n ∉ s.st → ob n = some p → w ∈ p.words → findO ob w = some o → s.mark w.2.toNat = true

theorem Inv.start {ob : Obs} {M : Nat} (hM : ∀ i, M ≤ i → ob i = none) (roots : List Wd) : Inv ob roots (eachS ob ⟨fun _ => false, []⟩ roots) := by
  have h := each_went ob M hM roots ⟨fun _ => false, []⟩
  refine ⟨fun n hn => ?_, fun n hn => ?_, h.all, fun n p w o hn hs => ?_⟩
  · rcases h.only n hn with h1 | ⟨_, x, hx, o, ho, e⟩
    · cases h1
    · rw [← e]; exact .root x o hx ho
  · obtain ⟨new, e, f⟩ := h.stack
    rw [e] at hn
    exact f n (by simpa using hn)
  · rcases h.only n hn with h1 | ⟨h1, _⟩
    · cases h1
    · exact absurd h1 hs
theorem Inv.round {ob : Obs} {M : Nat} (hM : ∀ i, M ≤ i → ob i = none) {roots : List Wd} {mk : Nat → Bool} {st : List Nat} {n : Nat} {p : Ob} (h : Inv ob roots ⟨mk, st ++ [n]⟩) (hp : ob n = some p) : Inv ob roots (eachS ob ⟨mk, st⟩ p.words) := by
  have hw := each_went ob M hM p.words ⟨mk, st⟩
  have hn : mk n = true := h.stack n (by simp)
  obtain ⟨new, e, f⟩ := hw.stack
  refine ⟨fun i hi => ?_, fun i hi => ?_, fun x hx o ho => hw.mono _ (h.roots x hx o ho), fun i p' w o hi hs hp' hw' ho => ?_⟩
  · rcases hw.only i hi with h1 | ⟨_, x, hx, o, ho, e⟩
    · exact h.sound i h1
    · rw [← e]; exact .step n p x o (h.sound n hn) hp hx ho
  · rw [e] at hi
    rcases List.mem_append.1 hi with hi | hi
    · exact hw.mono i (h.stack i (List.mem_append_left _ hi))
    · exact f i hi
  · rcases hw.only i hi with h1 | ⟨h1, _⟩
    · by_cases hin : i = n
      · subst hin
        rw [hp] at hp'
        cases hp'
        exact hw.all w hw' o ho
      · refine hw.mono _ (h.closed i p' w o h1 (fun hh => ?_) hp' hw' ho)
        rcases List.mem_append.1 hh with hh | hh
        · exact hs (by rw [e]; exact List.mem_append_left _ hh)
        · simp at hh; exact hin hh
    · exact absurd h1 hs
theorem Inv.done {ob : Obs} {roots : List Wd} {mk : Nat → Bool} (h : Inv ob roots ⟨mk, []⟩) : ∀ n, collected ob roots n = if mk n = true then ob n else none :=
  collected_of_marks ob roots mk h.sound (fun w o hw ho => h.roots w hw o ho) fun n p w o hm hp hw ho => h.closed n p w o hm (by simp) hp hw ho
end Go.Proofs.YtlibdhnlmekmhaaGreatDoor.Dfs
