/- One variable with a default value and local values in two scopes. -/
import Derived.Test.YtkbdonecbepfnaaVsLives
import Derived.Test.YtkbdonecbepfnaaVsCalls3
import Derived.Test.YtkbdonecbepfnaaVsKill
namespace Go.Proofs.Ytkbdonecbepfnaa.Vs
open Go.Proofs.Ytkbdonecbepfnaa.Own

theorem sN_pos (j m : Int) (hj : j ≠ 0) : sN.cells j m = none := by
  rw [sN_eq]
  simp only
  rw [if_neg (fun h => hj h.1), if_neg (fun h => hj h.1)]
/-- New variables with contents for variable n: the default one, and those in scopes a and b; the current scope. -/
def lS (n a b : Int) (c0 ca cb : Option Cl) (sc : Int) : Vs := ⟨fun j => if j = 0 then true else if j = a then ca.isSome else if j = b then cb.isSome else false, fun j m => if m = n then (if j = 0 then c0 else if j = a then ca else if j = b then cb else none) else sN.cells j m, sN.marks, sc, []⟩
structure Ab (n a b : Int) : Prop where
  hn : 2 ≤ n ∧ n < 16384
  ha : 1 ≤ a ∧ a ≤ 65536
  hb : 1 ≤ b ∧ b ≤ 65536
  ne : a ≠ b
theorem lS_zero {n a b : Int} (h : Ab n a b) : lS n a b none none none 0 = sN := by
  have h1 := sN_scope
  have h2 := sN_binds
  have e1 : (lS n a b none none none 0).has = sN.has := by
    funext j
    rw [sN_has]
    simp only [lS]
    by_cases e : j = 0 <;> simp [e]
  have e2 : (lS n a b none none none 0).cells = sN.cells := by
    funext j m
    simp only [lS]
    by_cases e : m = n
    · subst e
      rw [sN_cells j m h.hn.1]
      simp
    · rw [if_neg e]
  have e : lS n a b none none none 0 = ⟨sN.has, sN.cells, sN.marks, sN.scope, sN.binds⟩ := by rw [← e1, ← e2, h1, h2]; rfl
  exact e
theorem lS_mark {n a b : Int} (h : Ab n a b) (c0 ca cb : Option Cl) (sc m : Int) : markB (lS n a b c0 ca cb sc) n m = false := by
  unfold markB lS
  simp only
  rw [sN_marks n h.hn.1]
theorem lS_change {n a b : Int} (h : Ab n a b) (c0 ca cb : Option Cl) (sc : Int) : changeO (lS n a b c0 ca cb sc) n = 0 := by
  have := h.hn
  unfold changeO
  rw [if_pos (by omega), lS_mark h]
  rfl
theorem check_ok {n a b : Int} (h : Ab n a b) : checkO n = 0 := if_pos (by have := h.hn; omega)
theorem scope_ok {k : Int} (h : 1 ≤ k ∧ k ≤ 65536) : isScopeB k = true := decide_eq_true h
theorem lS_0 {n a b : Int} (c0 ca cb : Option Cl) (sc : Int) : (lS n a b c0 ca cb sc).cells 0 n = c0 := by simp [lS]
theorem lS_a {n a b : Int} (h : Ab n a b) (c0 ca cb : Option Cl) (sc : Int) : (lS n a b c0 ca cb sc).cells a n = ca := by
  have := h.ha
  simp only [lS, if_true]
  rw [if_neg (by omega)]
theorem lS_b {n a b : Int} (h : Ab n a b) (c0 ca cb : Option Cl) (sc : Int) : (lS n a b c0 ca cb sc).cells b n = cb := by
  have := h.hb
  have := h.ne
  simp only [lS, if_true]
  rw [if_neg (by omega), if_neg (by omega)]
theorem lS_put0 (n a b : Int) (c0 ca cb : Option Cl) (sc : Int) (d : Cl) : putC (lS n a b c0 ca cb sc) n 0 d = lS n a b (some d) ca cb sc := by
  unfold putC lS
  simp only [Vs.mk.injEq, and_true]
  refine ⟨?_, ?_⟩
  · funext j
    by_cases e : j = 0 <;> simp [e]
  · funext j m
    by_cases e : j = 0 <;> by_cases e2 : m = n <;> simp [e, e2]
theorem lS_puta {n a b : Int} (h : Ab n a b) (c0 ca cb : Option Cl) (sc : Int) (d : Cl) : putC (lS n a b c0 ca cb sc) n a d = lS n a b c0 (some d) cb sc := by
  have h1 := h.ha
  unfold putC lS
  simp only [Vs.mk.injEq, and_true]
  refine ⟨?_, ?_⟩
  · funext j
    by_cases e0 : j = 0
    · simp [e0]
    · by_cases e : j = a <;> simp [e, e0]
  · funext j m
    by_cases e0 : j = 0
    · simp only [e0, if_true]
      rw [if_neg (by omega)]
    · by_cases e : j = a
      · have : ¬ a = 0 := by omega
        by_cases e2 : m = n <;> simp [e, e2, this]
      · simp [e, e0]
theorem lS_putb {n a b : Int} (h : Ab n a b) (c0 ca cb : Option Cl) (sc : Int) (d : Cl) : putC (lS n a b c0 ca cb sc) n b d = lS n a b c0 ca (some d) sc := by
  have h1 := h.hb
  have h2 := h.ne
  have h3 : ¬ b = 0 := by omega
  have h4 : ¬ b = a := by omega
  unfold putC lS
  simp only [Vs.mk.injEq, and_true]
  refine ⟨?_, ?_⟩
  · funext j
    by_cases e : j = b
    · simp [e, h3, h4]
    · simp [e]
  · funext j m
    by_cases e : j = b
    · by_cases e2 : m = n <;> simp [e, e2, h3, h4]
    · simp [e]
theorem lS_scope (n a b : Int) (c0 ca cb : Option Cl) (sc k : Int) (hk : 0 ≤ k ∧ k ≤ 65536) : setScopeO (lS n a b c0 ca cb sc) k = (0, lS n a b c0 ca cb k) := by
  unfold setScopeO
  rw [if_pos hk]
  rfl
theorem lS_home0 (n a b : Int) (c0 ca cb : Option Cl) : homeO (lS n a b c0 ca cb 0) n = 0 := by
  unfold homeO
  split <;> rfl
theorem lS_homea {n a b : Int} (h : Ab n a b) (c0 ca cb : Option Cl) : homeO (lS n a b c0 ca cb a) n = if ca.isSome then a else 0 := by
  unfold homeO isLocalB
  show (if isScopeB a && ((lS n a b c0 ca cb a).cells a n).isSome then a else 0) = _
  rw [lS_a h, scope_ok h.ha]
  simp
theorem lS_homeb {n a b : Int} (h : Ab n a b) (c0 ca cb : Option Cl) : homeO (lS n a b c0 ca cb b) n = if cb.isSome then b else 0 := by
  unfold homeO isLocalB
  show (if isScopeB b && ((lS n a b c0 ca cb b).cells b n).isSome then b else 0) = _
  rw [lS_b h, scope_ok h.hb]
  simp
theorem lS_get0 (n a b : Int) (c : Cl) (ca cb : Option Cl) : getO (lS n a b (some c) ca cb 0) n = c := by
  unfold getO contentO
  rw [lS_home0, lS_0]
  rfl
theorem lS_geta {n a b : Int} (h : Ab n a b) (c0 : Option Cl) (c : Cl) (cb : Option Cl) : getO (lS n a b c0 (some c) cb a) n = c := by
  unfold getO contentO
  rw [lS_homea h, Option.isSome_some, if_pos rfl, lS_a h]
  rfl
theorem lS_geta0 {n a b : Int} (h : Ab n a b) (c : Cl) (cb : Option Cl) : getO (lS n a b (some c) none cb a) n = c := by
  unfold getO contentO
  rw [lS_homea h, Option.isSome_none, if_neg (by simp), lS_0]
  rfl
theorem lS_getb0 {n a b : Int} (h : Ab n a b) (c : Cl) (ca : Option Cl) : getO (lS n a b (some c) ca none b) n = c := by
  unfold getO contentO
  rw [lS_homeb h, Option.isSome_none, if_neg (by simp), lS_0]
  rfl

/-! ### The calls of VarsLocal -/
theorem loc1 {n a b : Int} (h : Ab n a b) (x : Wd) : setDefaultO sN n x = (0, lS n a b (some (x, true)) none none 0) := by
  rw [← lS_zero h]
  unfold setDefaultO
  rw [if_pos (lS_change h _ _ _ _), lS_put0]
theorem loc2 {n a b : Int} (h : Ab n a b) (c0 ca cb : Option Cl) (sc : Int) (y : Wd) : setLocalO (lS n a b c0 ca cb sc) n a y = (0, lS n a b c0 (some (y, true)) cb sc) := by
  unfold setLocalO
  rw [if_pos (check_ok h), if_pos (scope_ok h.ha), lS_mark h, if_neg (by simp), lS_puta h]
theorem loc4 {n a b : Int} (h : Ab n a b) (c : Cl) (ca : Option Cl) : makeLocalO (lS n a b (some c) ca none b) n = (0, lS n a b (some c) ca (some c) b) := by
  have hb := h.hb
  unfold makeLocalO
  rw [if_pos (lS_change h _ _ _ _), show (lS n a b (some c) ca none b).scope = b from rfl, if_neg (by omega)]
  have e1 : isLocalB (lS n a b (some c) ca none b) n b = false := by unfold isLocalB; rw [lS_b h]; simp
  rw [e1, if_neg (by simp)]
  unfold contentO
  rw [lS_0, lS_putb h]
  rfl
theorem loc5 {n a b : Int} (h : Ab n a b) (c0 ca : Option Cl) (c d : Cl) : setO (lS n a b c0 ca (some c) b) n d = (0, lS n a b c0 ca (some d) b) := by
  unfold setO
  rw [if_pos (lS_change h _ _ _ _), lS_homeb h, Option.isSome_some, if_pos rfl, lS_putb h]
theorem loc7 {n a b : Int} (h : Ab n a b) (c0 ca : Option Cl) (c : Cl) (sc : Int) : localO (lS n a b c0 ca (some c) sc) n b = c := by
  unfold localO isLocalB contentO
  rw [lS_b h, scope_ok h.hb]
  rfl
open Classical in
theorem loc9 {n a b : Int} (h : Ab n a b) (c0 cb : Option Cl) (c : Cl) : killO (lS n a b c0 (some c) cb a) n = (0, lS n a b c0 none cb a) := by
  have ha := h.ha
  unfold killO
  rw [if_pos (check_ok h), show (lS n a b c0 (some c) cb a).scope = a from rfl, if_neg (by omega)]
  refine Prod.ext rfl ?_
  have hno : ¬ ∃ m, m ≠ n ∧ (lS n a b c0 (some c) cb a).cells a m ≠ none := fun ⟨m, hm, hc⟩ => by
    simp only [lS, hm, if_false] at hc
    exact hc (sN_pos a m (by omega))
  have h0 : ¬ a = 0 := by omega
  show killC (lS n a b c0 (some c) cb a) n a = _
  unfold killC killS
  show (⟨_, _, _, _, _⟩ : Vs) = ⟨_, _, _, _, _⟩
  simp only [Vs.mk.injEq]
  refine ⟨?_, ?_, rfl, rfl, rfl⟩
  · funext j
    by_cases e : j = a
    · subst e
      simp only [if_true]
      rw [decide_eq_false hno]
      simp [h0]
    · simp [lS, e]
  · funext j m
    by_cases e : j = a
    · by_cases e2 : m = n <;> simp [lS, e, e2, h0]
    · simp [lS, e]
theorem loc11 {n a b : Int} (h : Ab n a b) (c0 cb : Option Cl) : dropO (lS n a b c0 none cb b) b = (0, lS n a b c0 none none 0) := by
  have hb := h.hb
  have h0 : ¬ b = 0 := by omega
  have h1 : ¬ b = a := fun e => h.ne e.symm
  unfold dropO
  rw [if_pos (scope_ok hb)]
  refine Prod.ext rfl ?_
  show (⟨_, _, _, _, _⟩ : Vs) = ⟨_, _, _, _, _⟩
  simp only [Vs.mk.injEq]
  refine ⟨?_, ?_, rfl, if_pos rfl, rfl⟩
  · funext j
    by_cases e : j = b
    · simp [dropS, e, h0]
    · simp [dropS, lS, e]
  · funext j m
    by_cases e : j = b
    · simp only [dropS, e, if_true]
      by_cases e2 : m = n
      · subst e2
        simp [h0]
      · rw [if_neg e2, sN_pos b m h0]
    · simp [dropS, lS, e]
end Go.Proofs.Ytkbdonecbepfnaa.Vs
