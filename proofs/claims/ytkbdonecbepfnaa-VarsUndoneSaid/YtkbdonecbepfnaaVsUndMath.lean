/- Plain mathematics of bindings that are undone. -/
import Derived.Test.YtkbdonecbepfnaaVsUnbind3
import Derived.Test.YtkbdonecbepfnaaVsVals
namespace Go.Proofs.Ytkbdonecbepfnaa.Vs
open Go.RowKit
open Go.Proofs.Ytkbdonecbepfnaa.Own

abbrev Cf := Int → Int → Cl
def updC (f : Cf) (k n : Int) (c : Cl) : Cf := fun j m => if j = k ∧ m = n then c else f j m
def undoC (f : Cf) (l : List Bd) : Cf := l.foldl (fun f b => updC f b.k b.n b.old) f
theorem cont_putC (s : Vs) (n k : Int) (c : Cl) : cont (putC s n k c) = updC (cont s) k n c := by
  funext j m
  unfold cont updC putC
  by_cases e : j = k ∧ m = n <;> simp [e]
theorem putC_some (s : Vs) (n k j m : Int) (c : Cl) (h : (s.cells j m).isSome = true) : ((putC s n k c).cells j m).isSome = true := by
  unfold putC
  by_cases e : j = k ∧ m = n <;> simp [e, h]
theorem undoO_there (s : Vs) (b : Bd) (j m : Int) (h : (s.cells j m).isSome = true) : ((undoO s b).cells j m).isSome = true := by
  unfold undoO
  split
  · exact putC_some _ _ _ _ _ _ h
  · exact h
theorem cont_undoL (l : List Bd) : ∀ s : Vs, (∀ b ∈ l, (s.cells b.k b.n).isSome = true) → cont (undoL s l) = undoC (cont s) l := by
  induction l with
  | nil => intro s _; rfl
  | cons b l ih =>
    intro s h
    have hb := h b (by simp)
    show cont (undoL (undoO s b) l) = undoC (updC (cont s) b.k b.n b.old) l
    rw [ih _ fun c hc => undoO_there s b _ _ (h c (by simp [hc]))]
    unfold undoO
    rw [if_pos hb, cont_putC]
theorem updC_twice (f : Cf) (k n : Int) (c : Cl) : updC (updC f k n c) k n (f k n) = f := by
  funext j m
  unfold updC
  by_cases e : j = k ∧ m = n
  · obtain ⟨rfl, rfl⟩ := e
    simp
  · simp [e]
theorem updC_over (f : Cf) (k n : Int) (c d : Cl) : updC (updC f k n c) k n d = updC f k n d := by
  funext j m
  unfold updC
  by_cases e : j = k ∧ m = n <;> simp [e]
theorem updC_comm (f : Cf) (k n k' n' : Int) (c d : Cl) (h : ¬ (k = k' ∧ n = n')) : updC (updC f k n c) k' n' d = updC (updC f k' n' d) k n c := by
  funext j m
  unfold updC
  by_cases e : j = k ∧ m = n
  · by_cases e2 : j = k' ∧ m = n'
    · exact absurd ⟨e.1.symm.trans e2.1, e.2.symm.trans e2.2⟩ h
    · simp [e, h]
  · by_cases e2 : j = k' ∧ m = n'
    · have h' : ¬ (k' = k ∧ n' = n) := fun hh => h ⟨hh.1.symm, hh.2.symm⟩
      simp only [e2, and_self, if_true]
      rw [if_neg h']
    · simp [e, e2]
/-- What is set in a bound cell is undone. -/
theorem undoC_set (k n : Int) (c : Cl) (l : List Bd) : ∀ f : Cf, (∃ b ∈ l, b.k = k ∧ b.n = n) → undoC (updC f k n c) l = undoC f l := by
  induction l with
  | nil => intro f ⟨b, hb, _⟩; cases hb
  | cons b l ih =>
    intro f h
    show undoC (updC (updC f k n c) b.k b.n b.old) l = undoC (updC f b.k b.n b.old) l
    by_cases e : b.k = k ∧ b.n = n
    · rw [e.1, e.2, updC_over]
    · rw [updC_comm _ _ _ _ _ _ _ (fun h => e ⟨h.1.symm, h.2.symm⟩)]
      refine ih _ ?_
      obtain ⟨b', hb', h1⟩ := h
      rcases List.mem_cons.1 hb' with rfl | hb'
      · exact absurd h1 e
      · exact ⟨b', hb', h1⟩

/-- The home of variable n at scope k. -/
def homeAt (s : Vs) (n k : Int) : Int := if isLocalB s n k then k else 0
theorem homeO_at (s : Vs) (n : Int) : homeO s n = homeAt s n s.scope := rfl
/-- Between two calls of the second list: s0 is what was, B the new bindings, bound their variables and scopes. -/
structure Und (s0 s : Vs) (B : List Bd) (bound : List (Int × Int)) : Prop where
  binds : s.binds = s0.binds ++ B
  undo : undoC (cont s) B.reverse = cont s0
  there : ∀ b ∈ B, (s.cells b.k b.n).isSome = true
  locs : ∀ n k, isLocalB s n k = isLocalB s0 n k
  bound : ∀ p ∈ bound, ∃ b ∈ B, b.n = p.1 ∧ b.k = homeAt s0 p.1 p.2
theorem Und.start (s : Vs) : Und s s [] [] where
  binds := by simp
  undo := rfl
  there := by simp
  locs := fun _ _ => rfl
  bound := by simp
theorem locs_putC (s : Vs) (n k m j : Int) (c : Cl) (h : k = 0 ∨ isLocalB s n k = true) : isLocalB (putC s n k c) m j = isLocalB s m j := by
  unfold isLocalB putC
  by_cases e : j = k ∧ m = n
  · obtain ⟨rfl, rfl⟩ := e
    rcases h with rfl | h
    · simp [isScopeB]
    · unfold isLocalB at h
      simp only [and_self, if_true, Option.isSome_some, Bool.and_true]
      rw [h]
      simp only [Bool.and_eq_true] at h
      exact h.1
  · simp [e]
theorem home_ok (s : Vs) (n : Int) : homeO s n = 0 ∨ isLocalB s n (homeO s n) = true := by
  unfold homeO
  by_cases e : isLocalB s n s.scope = true
  · rw [if_pos e]
    exact .inr e
  · rw [if_neg e]
    exact .inl rfl
theorem Und.bind {s0 s : Vs} {B : List Bd} {bound : List (Int × Int)} (h : Und s0 s B bound) (n : Int) (x : Wd) (e : (bindO s n x).1 = 0) : ∃ B', Und s0 (bindO s n x).2 B' (bound ++ [(n, s.scope)]) := by
  unfold bindO at e ⊢
  by_cases e1 : changeO s n = 0
  · rw [if_pos e1] at e ⊢
    by_cases e2 : 2000 ≤ s.binds.length
    · rw [if_pos e2] at e
      cases e
    · rw [if_neg e2]
      obtain ⟨k, hk⟩ : ∃ k, homeO s n = k := ⟨_, rfl⟩
      have hok := home_ok s n
      have hha := homeO_at s n
      rw [hk] at hok hha ⊢
      refine ⟨B ++ [⟨contentO s n k, n, k⟩], ?_, ?_, ?_, ?_, ?_⟩
      · show s.binds ++ _ = _
        rw [h.binds, List.append_assoc]
      · rw [cont_putC, List.reverse_append]
        show undoC (updC (updC (cont s) k n (x, true)) k n (cont s k n)) B.reverse = cont s0
        rw [updC_twice]
        exact h.undo
      · intro b hb
        rcases List.mem_append.1 hb with hb | hb
        · exact putC_some _ _ _ _ _ _ (h.there b hb)
        · obtain rfl := List.mem_singleton.1 hb
          simp [putC]
      · intro m j
        exact (locs_putC _ n k m j (x, true) hok).trans (h.locs m j)
      · intro p hp
        rcases List.mem_append.1 hp with hp | hp
        · obtain ⟨b, hb, h1⟩ := h.bound p hp
          exact ⟨b, List.mem_append.2 (.inl hb), h1⟩
        · obtain rfl := List.mem_singleton.1 hp
          refine ⟨_, List.mem_append.2 (.inr (List.mem_singleton.2 rfl)), rfl, ?_⟩
          show k = homeAt s0 n s.scope
          rw [hha]
          unfold homeAt
          rw [h.locs]
  · rw [if_neg e1] at e
    exact absurd e e1
theorem Und.bindNot {s0 s : Vs} {B : List Bd} {bound : List (Int × Int)} (h : Und s0 s B bound) (n : Int) (x : Wd) (e : (bindO s n x).1 ≠ 0) : Und s0 (bindO s n x).2 B bound := by
  unfold bindO at e ⊢
  by_cases e1 : changeO s n = 0
  · rw [if_pos e1] at e ⊢
    by_cases e2 : 2000 ≤ s.binds.length
    · rw [if_pos e2]
      exact h
    · rw [if_neg e2] at e
      exact absurd rfl e
  · rw [if_neg e1]
    exact h
theorem Und.set {s0 s : Vs} {B : List Bd} {bound : List (Int × Int)} (h : Und s0 s B bound) (n : Int) (c : Cl) (hb : (n, s.scope) ∈ bound) : Und s0 (setO s n c).2 B bound := by
  unfold setO
  by_cases e1 : changeO s n = 0
  · rw [if_pos e1]
    obtain ⟨b, hbB, h1, h2⟩ := h.bound _ hb
    have hk : homeO s n = b.k := by
      rw [h2, homeO_at]
      unfold homeAt
      rw [h.locs]
    have hok := home_ok s n
    refine ⟨h.binds, ?_, fun b' hb' => putC_some _ _ _ _ _ _ (h.there b' hb'), fun m j => (locs_putC _ n _ m j c hok).trans (h.locs m j), h.bound⟩
    rw [cont_putC, undoC_set _ _ _ _ _ ⟨b, List.mem_reverse.2 hbB, hk.symm, h1⟩]
    exact h.undo
  · rw [if_neg e1]
    exact h
theorem Und.scope {s0 s : Vs} {B : List Bd} {bound : List (Int × Int)} (h : Und s0 s B bound) (k : Int) : Und s0 (setScopeO s k).2 B bound := by
  unfold setScopeO
  split
  · exact ⟨h.binds, h.undo, h.there, h.locs, h.bound⟩
  · exact h
theorem undoL_locs (l : List Bd) : ∀ s : Vs, (∀ b ∈ l, (s.cells b.k b.n).isSome = true) → ∀ j m, ((undoL s l).cells j m).isSome = (s.cells j m).isSome := by
  induction l with
  | nil => intro s _ j m; rfl
  | cons b l ih =>
    intro s h j m
    show ((undoL (undoO s b) l).cells j m).isSome = _
    rw [ih _ fun c hc => undoO_there s b _ _ (h c (by simp [hc]))]
    have hb := h b (by simp)
    unfold undoO
    rw [if_pos hb]
    unfold putC
    by_cases e : j = b.k ∧ m = b.n
    · obtain ⟨rfl, rfl⟩ := e
      simp [hb]
    · simp [e]
/-- Behind Unbind: the same contents, bindings and local variables. -/
theorem Und.done {s0 s : Vs} {B : List Bd} {bound : List (Int × Int)} (h : Und s0 s B bound) : (unbindO s s0.binds.length).1 = 0 ∧ cont (unbindO s s0.binds.length).2 = cont s0 ∧ (unbindO s s0.binds.length).2.binds = s0.binds ∧ ∀ n k, isLocalB (unbindO s s0.binds.length).2 n k = isLocalB s0 n k := by
  have hd : (0 : Int) ≤ (s0.binds.length : Int) ∧ (s0.binds.length : Int) ≤ s.binds.length := by
    rw [h.binds, List.length_append]
    omega
  have hdr : s.binds.drop (s0.binds.length : Int).toNat = B := by rw [h.binds]; simp
  have htk : s.binds.take (s0.binds.length : Int).toNat = s0.binds := by rw [h.binds]; simp
  unfold unbindO
  rw [if_pos hd, hdr, htk]
  have hth : ∀ b ∈ B.reverse, (s.cells b.k b.n).isSome = true := fun b hb => h.there b (List.mem_reverse.1 hb)
  refine ⟨rfl, ?_, rfl, fun n k => ?_⟩
  · exact (cont_undoL B.reverse s hth).trans h.undo
  · rw [← h.locs n k]
    unfold isLocalB
    have := undoL_locs B.reverse s hth k n
    simp only [this]
end Go.Proofs.Ytkbdonecbepfnaa.Vs
