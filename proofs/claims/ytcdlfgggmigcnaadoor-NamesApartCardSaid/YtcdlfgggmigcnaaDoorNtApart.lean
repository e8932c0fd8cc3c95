/- NamesApart: the walk of the law. -/
import Derived.Test.YtcdlfgggmigcnaaDoorNtCellKit
import Derived.Test.YtcdlfgggmigcnaaDoorNtCopy
namespace Go.Proofs.YtcdlfgggmigcnaaDoor.Nt
set_option maxRecDepth 100000
open Go.RowKit
open Go.Proofs.YtcdlfgggmigcnaaDoor.Own Go.Proofs.YtcdlfgggmigcnaaDoor.Strs Go.Proofs.YtcdlfgggmigcnaaDoor.Clone

theorem internO_pre {t : Tb} {u : ByteArray} {k : Nat} {s : Sy} (h : t.syms[k]? = some s) : (internO t u).2.2.syms[k]? = some s := by
  unfold internO
  split
  · exact h
  · split
    · simp only
      rw [List.getElem?_append_left (List.getElem?_eq_some_iff.1 h).1]
      exact h
    · exact h
theorem internO_more (t : Tb) (u : ByteArray) : t.syms.length ≤ (internO t u).2.2.syms.length := by
  unfold internO
  split
  · exact Nat.le_refl _
  · split
    · simp
    · exact Nat.le_refl _
/-- A name that is there: its number; the table stays. -/
theorem internO_hit {t : Tb} {s : ByteArray} {n : Nat} (h : t.find s = some n) : internO t s = ((n : Int), 0, t) := by unfold internO; rw [h]
/-- Behind Intern: a name that was there has its number; with no error the name has the number that was returned. -/
theorem internO_keeps {t : Tb} {s u : ByteArray} {n : Nat} (h : t.find s = some n) : (internO t u).2.2.find s = some n := by
  unfold internO
  split
  · exact h
  · rename_i hu
    split
    · show upd t.find u t.syms.length s = some n
      unfold upd
      rw [if_neg (by intro e; subst e; rw [hu] at h; cases h)]
      exact h
    · exact h
theorem internO_ok {t : Tb} {s : ByteArray} (h : (internO t s).2.1 = 0) : ∃ n : Nat, (internO t s).1 = (n : Int) ∧ (internO t s).2.2.find s = some n := by
  cases hs : t.find s with
  | some n => exact ⟨n, by rw [internO_hit hs], by rw [internO_hit hs]; exact hs⟩
  | none =>
    by_cases h1 : (freshO t s).2.1 = 0
    · have e : internO t s = ((t.syms.length : Int), 0, ⟨t.syms ++ [newSy s], upd t.find s t.syms.length⟩) := by
        unfold internO
        rw [hs]
        simp only
        rw [if_pos h1]
      rw [e]
      exact ⟨_, rfl, by simp [upd]⟩
    · have e : internO t s = (0, (freshO t s).2.1, t) := by
        unfold internO
        rw [hs]
        simp only
        rw [if_neg h1]
      rw [e] at h
      exact absurd h h1
theorem internO_fresh {t : Tb} {u : ByteArray} (hu : t.find u = none) (h : (internO t u).2.1 = 0) : (internO t u).1 = (t.syms.length : Int) := by
  unfold internO at h ⊢
  simp only [hu] at h ⊢
  split at h
  · rename_i h1
    rw [if_pos h1]
  · rename_i h1
    exact absurd h h1

/-- What the law asks of the numbers. -/
theorem apart_math {t1 t3 c6 : Tb} {s u : ByteArray} {x e y f z g : Int} {c4 c7 : Tb} {a1 : Tb} (h1 : internO a1 s = (x, e, t1)) (h3 : t3.find = t1.find) (hf : ∀ s (n : Nat), t3.find s = some n → ∃ y : Sy, t3.syms[n]? = some y ∧ y.name = s)
    (h4 : internO t3 u = (y, f, c4)) (h6 : c6.find = c4.find) (h7 : internO c6 s = (z, g, c7)) :
    (e = 0 → g = 0 ∧ z = x) ∧ (∀ n : Nat, t3.find u = some n → f = 0 ∧ y = (n : Int) ∧ n < t3.syms.length) ∧ (t3.find u = none → f = 0 → y = (t3.syms.length : Int)) := by
  refine ⟨fun he => ?_, fun n hn => ?_, fun hn h0 => ?_⟩
  · obtain ⟨n, hx, hs⟩ := internO_ok (t := a1) (s := s) (by rw [h1]; exact he)
    rw [h1] at hx hs
    simp only at hx hs
    have hk := internO_keeps (u := u) (show t3.find s = some n by rw [h3]; exact hs)
    rw [h4] at hk
    simp only at hk
    rw [internO_hit (show c6.find s = some n by rw [h6]; exact hk)] at h7
    simp only [Prod.mk.injEq] at h7
    exact ⟨h7.2.1.symm, by rw [← h7.1, hx]⟩
  · rw [internO_hit hn] at h4
    simp only [Prod.mk.injEq] at h4
    obtain ⟨y0, hy, _⟩ := hf u n hn
    exact ⟨h4.2.1.symm, h4.1.symm, (List.getElem?_eq_some_iff.1 hy).1⟩
  · have h := internO_fresh hn (by rw [h4]; exact h0)
    rw [h4] at h
    exact h
theorem atEnd_one (k : Int) (x : Wd) : AtEnd [(k, x)] k := .inl (hasKey_one k x).1
theorem putL_one (k : Int) (x y : Wd) : putL [(k, x)] k y = [(k, y)] := by
  unfold putL
  rw [if_pos (hasKey_one k x).1, (hasKey_one k x).2]
  rfl

/-- Texts that are not considered. -/
theorem apart_light (s u : ByteArray) (n : Int) (v o : Wd) (w : World) (hs : s.size ≤ maxLen) (hu : u.size ≤ maxLen) (hT : Tabs w) (h : 300 < s.size ∨ 300 < u.size) :
    Calls Tryd.prog 12 #[.string s, .string u, .int .i64 n, wdv v, wdv o] w fun e w' => e = .returned (.bool true) ∧ Below w.heap.size w w' := by
  have hbB : Below w.heap.size w ((w.alloc (wboxN v)).alloc (wboxN o)) := ((Below.refl _ _).alloc (Nat.le_refl _) _).alloc (by simp) _
  have HL := Lib.hid (lives_any _ (hT.below hbB))
  have HBB := Lib.hid hbB
  unfold maxLen at hs hu
  clear hT hbB
  by_cases h3 : 300 < s.size
  · have hz : (300 : Int) < s.size := by omega
    clear h
    go_enter Tryd.func12, Tryd.ntmps12
    go_wp2_with fail
    refine HL.out.mono ?_
    rintro e w1 ⟨rfl, hb1⟩
    have HF := Lib.hid (HBB.out.trans (hb1.mono HBB.out.size))
    go_wp2_with fail
    go_ret
    exact ⟨rfl, HF.out⟩
  · have hz : ¬ (300 : Int) < s.size := by omega
    have hz2 : (300 : Int) < u.size := by omega
    clear h
    go_enter Tryd.func12, Tryd.ntmps12
    go_wp2_with fail
    refine HL.out.mono ?_
    rintro e w1 ⟨rfl, hb1⟩
    have HF := Lib.hid (HBB.out.trans (hb1.mono HBB.out.size))
    go_wp2_with fail
    go_ret
    exact ⟨rfl, HF.out⟩

set_option maxHeartbeats 8000000 in
theorem apart_core (s u : ByteArray) (n : Int) (v o : Wd) (w : World) (hs : s.size ≤ 300) (hu : u.size ≤ 300) (hT : Tabs w) :
    Calls Tryd.prog 12 #[.string s, .string u, .int .i64 n, wdv v, wdv o] w fun e w' => e = .returned (.bool true) ∧ Below w.heap.size w w' := by
  obtain ⟨p, hp, hPp⟩ := pick_nat n 60 (by omega) (by omega)
  have hbB : Below w.heap.size w ((w.alloc (wboxN v)).alloc (wboxN o)) := ((Below.refl _ _).alloc (Nat.le_refl _) _).alloc (by simp) _
  have HL := Lib.hid (lives_any _ (hT.below hbB))
  have HT := Lib.hid hT
  have HPp := Lib.hid hPp
  have HBB := Lib.hid hbB
  have hz1 : ¬ (300 : Int) < s.size := by omega
  have hz2 : ¬ (300 : Int) < u.size := by omega
  obtain ⟨X, hX⟩ : ∃ X, 2 + p = X := ⟨_, rfl⟩
  have hx2 : (2 : Int) + (p : Int) = (X : Int) := by omega
  have hX2 : 2 ≤ X := by omega
  have hXb : X < 62 := by omega
  obtain ⟨nx, hnx⟩ := t0_at X hXb
  obtain ⟨x, er, T1, hi1⟩ : ∃ x er T1, internO t0 s = (x, er, T1) := ⟨_, _, _, rfl⟩
  have hx1 : T1.syms[X]? = some (newSy nx) := by have h1 := internO_pre (u := s) hnx; rw [hi1] at h1; exact h1
  have hl1 : 5 < T1.syms.length := by have h1 := internO_more t0 s; rw [hi1, t0_length] at h1; simp only at h1; omega
  obtain ⟨T2, hT2⟩ : ∃ T2 : Tb, (⟨T1.syms.set X ⟨nx, v, true, []⟩, T1.find⟩ : Tb) = T2 := ⟨_, rfl⟩
  have hx2' : T2.syms[X]? = some ⟨nx, v, true, []⟩ := by rw [← hT2]; exact set_me hx1
  have hl2 : 5 < T2.syms.length := by rw [← hT2, List.length_set]; exact hl1
  obtain ⟨T3, hT3⟩ : ∃ T3 : Tb, (⟨T2.syms.set X ⟨nx, v, true, [((5 : Int), v)]⟩, T2.find⟩ : Tb) = T3 := ⟨_, rfl⟩
  have hx3 : T3.syms[X]? = some ⟨nx, v, true, [((5 : Int), v)]⟩ := by rw [← hT3]; exact set_me hx2'
  have hl3 : 5 < T3.syms.length := by rw [← hT3, List.length_set]; exact hl2
  have hf3 : T3.find = T1.find := by rw [← hT3, ← hT2]
  obtain ⟨y, f, C4, hi4⟩ : ∃ y f C4, internO T3 u = (y, f, C4) := ⟨_, _, _, rfl⟩
  have hx4 : C4.syms[X]? = some ⟨nx, v, true, [((5 : Int), v)]⟩ := by have h1 := internO_pre (u := u) hx3; rw [hi4] at h1; exact h1
  have hl4 : 5 < C4.syms.length := by have h1 := internO_more T3 u; rw [hi4] at h1; simp only at h1; omega
  obtain ⟨C5, hC5⟩ : ∃ C5 : Tb, (⟨C4.syms.set X ⟨nx, o, true, [((5 : Int), v)]⟩, C4.find⟩ : Tb) = C5 := ⟨_, rfl⟩
  have hx5 : C5.syms[X]? = some ⟨nx, o, true, [((5 : Int), v)]⟩ := by rw [← hC5]; exact set_me hx4
  have hl5 : 5 < C5.syms.length := by rw [← hC5, List.length_set]; exact hl4
  obtain ⟨C6, hC6⟩ : ∃ C6 : Tb, (⟨C5.syms.set X ⟨nx, o, true, [((5 : Int), o)]⟩, C5.find⟩ : Tb) = C6 := ⟨_, rfl⟩
  have hx6 : C6.syms[X]? = some ⟨nx, o, true, [((5 : Int), o)]⟩ := by rw [← hC6]; exact set_me hx5
  have hf6 : C6.find = C4.find := by rw [← hC6, ← hC5]
  obtain ⟨z, g, C7, hi7⟩ : ∃ z g C7, internO C6 s = (z, g, C7) := ⟨_, _, _, rfl⟩
  have HM := Lib.hid (fun hf => apart_math hi1 hf3 hf hi4 hf6 hi7)
  have K1 := Lib.hid (show ∀ (W : World) (base tp : Nat) (lab : Nat → Option TLab) (P : TParts), TabIs W base tp t0 lab P → base ≤ W.heap.size → Tabs W → Calls Tryd.prog 46 #[tptr tp, .string s] W fun e w' => e = .returned (.tuple #[.int .i64 x, .int .i64 er]) ∧ TabOk W w' base tp T1 lab from fun _ _ _ _ _ h hb ht => by
    have h1 := intern_any h hb s (by omega) ht
    rw [hi1] at h1
    exact h1)
  have K2 := Lib.hid (show ∀ (W : World) (base tp : Nat) (lab : Nat → Option TLab) (P : TParts), TabIs W base tp T1 lab P → Calls Tryd.prog 51 #[tptr tp, .int .i64 (X : Int), wdv v] W fun e w' => e = .returned (.int .i64 0) ∧ TabOk W w' base tp T2 lab from fun _ _ _ _ _ h => by
    have h1 := setFunc_any h (X : Int) v
    rw [define_at hx1 hX2] at h1
    rw [← hT2]
    exact h1)
  have K3 := Lib.hid (show ∀ (W : World) (base tp : Nat) (lab : Nat → Option TLab) (P : TParts), TabIs W base tp T2 lab P → base ≤ W.heap.size → Calls Tryd.prog 61 #[tptr tp, .int .i64 (X : Int), .int .i64 5, wdv v] W fun e w' => e = .returned (.int .i64 0) ∧ TabOk W w' base tp T3 lab from fun _ _ _ _ _ h hb => by
    have h1 := setProp_any h hb (X : Int) ((5 : Nat) : Int) v (fun s hs => by rw [symO_nat, hx2'] at hs; cases hs; exact atEnd_nil _)
    rw [setProp_at hx2' hl2] at h1
    rw [← hT3]
    exact h1)
  have K4 := Lib.hid (show ∀ (W : World) (base tp : Nat) (lab : Nat → Option TLab) (P : TParts), TabIs W base tp T3 lab P → base ≤ W.heap.size → Tabs W → Calls Tryd.prog 46 #[tptr tp, .string u] W fun e w' => e = .returned (.tuple #[.int .i64 y, .int .i64 f]) ∧ TabOk W w' base tp C4 lab from fun _ _ _ _ _ h hb ht => by
    have h1 := intern_any h hb u (by omega) ht
    rw [hi4] at h1
    exact h1)
  have K5 := Lib.hid (show ∀ (W : World) (base tp : Nat) (lab : Nat → Option TLab) (P : TParts), TabIs W base tp C4 lab P → Calls Tryd.prog 51 #[tptr tp, .int .i64 (X : Int), wdv o] W fun e w' => e = .returned (.int .i64 0) ∧ TabOk W w' base tp C5 lab from fun _ _ _ _ _ h => by
    have h1 := setFunc_any h (X : Int) o
    rw [define_at hx4 hX2] at h1
    rw [← hC5]
    exact h1)
  have K6 := Lib.hid (show ∀ (W : World) (base tp : Nat) (lab : Nat → Option TLab) (P : TParts), TabIs W base tp C5 lab P → base ≤ W.heap.size → Calls Tryd.prog 61 #[tptr tp, .int .i64 (X : Int), .int .i64 5, wdv o] W fun e w' => e = .returned (.int .i64 0) ∧ TabOk W w' base tp C6 lab from fun _ _ _ _ _ h hb => by
    have h1 := setProp_any h hb (X : Int) ((5 : Nat) : Int) o (fun s hs => by rw [symO_nat, hx5] at hs; cases hs; exact atEnd_one _ _)
    rw [setProp_at hx5 hl5] at h1
    rw [← hC6]
    have e1 := putL_one ((5 : Nat) : Int) v o
    rw [show ((5 : Nat) : Int) = (5 : Int) from rfl] at e1 h1
    rw [e1] at h1
    exact h1)
  have K7 := Lib.hid (show ∀ (W : World) (base tp : Nat) (lab : Nat → Option TLab) (P : TParts), TabIs W base tp C6 lab P → base ≤ W.heap.size → Tabs W → Calls Tryd.prog 46 #[tptr tp, .string s] W fun e w' => e = .returned (.tuple #[.int .i64 z, .int .i64 g]) ∧ TabOk W w' base tp C7 lab from fun _ _ _ _ _ h hb ht => by
    have h1 := intern_any h hb s (by omega) ht
    rw [hi7] at h1
    exact h1)
  have KF3 := Lib.hid (show ∀ (W : World) (base tp : Nat) (lab : Nat → Option TLab) (P : TParts), TabIs W base tp T3 lab P → Calls Tryd.prog 62 #[tptr tp, .int .i64 (X : Int)] W fun e w' => e = .returned (.tuple #[wdv v, .bool true]) ∧ Below W.heap.size W w' from fun _ _ _ _ _ h => by
    have h1 := func_any h (X : Int)
    rw [func_at hx3] at h1
    exact h1)
  have KF6 := Lib.hid (show ∀ (W : World) (base tp : Nat) (lab : Nat → Option TLab) (P : TParts), TabIs W base tp C6 lab P → Calls Tryd.prog 62 #[tptr tp, .int .i64 (X : Int)] W fun e w' => e = .returned (.tuple #[wdv o, .bool true]) ∧ Below W.heap.size W w' from fun _ _ _ _ _ h => by
    have h1 := func_any h (X : Int)
    rw [func_at hx6] at h1
    exact h1)
  have KP3 := Lib.hid (show ∀ (W : World) (base tp : Nat) (lab : Nat → Option TLab) (P : TParts), TabIs W base tp T3 lab P → Calls Tryd.prog 63 #[tptr tp, .int .i64 (X : Int), .int .i64 5] W fun e w' => e = .returned (.tuple #[wdv v, .bool true]) ∧ Below W.heap.size W w' from fun _ _ _ _ _ h => by
    have h1 := prop_any h (X : Int) 5
    rw [prop_one hx3 rfl] at h1
    exact h1)
  have KP6 := Lib.hid (show ∀ (W : World) (base tp : Nat) (lab : Nat → Option TLab) (P : TParts), TabIs W base tp C6 lab P → Calls Tryd.prog 63 #[tptr tp, .int .i64 (X : Int), .int .i64 5] W fun e w' => e = .returned (.tuple #[wdv o, .bool true]) ∧ Below W.heap.size W w' from fun _ _ _ _ _ h => by
    have h1 := prop_any h (X : Int) 5
    rw [prop_one hx6 rfl] at h1
    exact h1)
  have HU3 := Lib.hid hu
  clear hT hPp hbB hnx hi1 hx1 hl1 hT2 hx2' hl2 hT3 hx3 hl3 hf3 hi4 hx4 hl4 hC5 hx5 hl5 hC6 hx6 hf6 hi7 hX hp
  go_enter Tryd.func12, Tryd.ntmps12
  go_wp2_with fail
  refine HL.out.mono ?_
  rintro e w1 ⟨rfl, hb1⟩
  obtain ⟨m1, m2⟩ := two_new hb1
  have HV := Lib.hid m1
  have HU := Lib.hid m2
  have HB1 := Lib.hid (HBB.out.trans (hb1.mono HBB.out.size))
  have HN := Lib.hid (new_any w1 (HT.out.below HB1.out))
  obtain ⟨tp, htp⟩ : ∃ tp, w1.heap.size + 1 = tp := ⟨_, rfl⟩
  rw [htp] at HN
  clear hb1 m1 m2 htp HL HBB
  go_wp2_with fail
  refine HN.out.mono ?_
  rintro e w2 ⟨rfl, hb2, lab2, P2, hI2⟩
  have HC2 := Lib.hid (show Cs w1 w2 tp t0 lab2 P2 from ⟨hI2, hb2⟩)
  have HQ := Lib.hid (show ∀ W, Below w1.heap.size w1 W → Tabs W from fun W hW => HT.out.below (HB1.out.trans (hW.mono HB1.out.size)))
  have C1 := Lib.hid (K1.out _ _ _ _ _ HC2.out.tab HC2.out.below.size (HQ.out _ HC2.out.below))
  clear hb2 hI2 HN K1
  go_wp2_with fail
  refine C1.out.mono ?_
  rintro e w3 ⟨rfl, lab3, P3, hI3, hA3⟩
  have HC3 := Lib.hid (HC2.out.after hI3 hA3)
  have e1 := (HV.out.below HC3.out.below).cell 0 _ rfl
  have e2 := (HV.out.below HC3.out.below).cell 1 _ rfl
  have C2 := Lib.hid (K2.out _ _ _ _ _ HC3.out.tab)
  clear hI3 hA3 C1 HC2 K2
  go_wp2_with fail
  refine (HPp.out _).mono ?_
  rintro e w4 ⟨rfl, rfl⟩
  go_wp2_with fail
  refine C2.out.mono ?_
  rintro e w4 ⟨rfl, lab4, P4, hI4, hA4⟩
  clear e1 e2
  have HC4 := Lib.hid (HC3.out.after hI4 hA4)
  have e1 := (HV.out.below HC4.out.below).cell 0 _ rfl
  have e2 := (HV.out.below HC4.out.below).cell 1 _ rfl
  have C3 := Lib.hid (K3.out _ _ _ _ _ HC4.out.tab HC4.out.below.size)
  clear hI4 hA4 C2 HC3 K3 HPp
  go_wp2_with fail
  refine C3.out.mono ?_
  rintro e w5 ⟨rfl, lab5, P5, hI5, hA5⟩
  clear e1 e2
  have HC5 := Lib.hid (HC4.out.after hI5 hA5)
  have C4' := Lib.hid (copyT_any HC5.out.tab)
  clear hI5 hA5 C3 HC4
  go_wp2_with fail
  refine C4'.out.mono ?_
  rintro e w6 ⟨cp, rfl, _hcp, hb6, lab6, P6, hI6⟩
  have HT3 := Lib.hid (show ∀ W, Below w5.heap.size w5 W → TabIs W w1.heap.size tp T3 lab5 P5 from fun W hW => HC5.out.tab.below hW)
  have HR := Lib.hid (show ∀ W, Below w5.heap.size w5 W → Below w1.heap.size w1 W from fun W hW => HC5.out.below.trans (hW.mono HC5.out.below.size))
  have HV5 := Lib.hid (HV.out.below HC5.out.below)
  have HU5 := Lib.hid (HU.out.below HC5.out.below)
  have HM5 := Lib.hid (HM.out HC5.out.tab.found)
  have HD6 := Lib.hid (show Cs w5 w6 cp T3 lab6 P6 from ⟨hI6, hb6⟩)
  have C5' := Lib.hid (K4.out _ _ _ _ _ HD6.out.tab HD6.out.below.size (HQ.out _ (HR.out _ HD6.out.below)))
  clear hb6 hI6 C4' HC5 K4 HV HU HM _hcp
  go_wp2_with fail
  refine C5'.out.mono ?_
  rintro e w7 ⟨rfl, lab7, P7, hI7, hA7⟩
  have HD7 := Lib.hid (HD6.out.after hI7 hA7)
  have e3 := (HU5.out.below HD7.out.below).cell 0 _ rfl
  have e4 := (HU5.out.below HD7.out.below).cell 1 _ rfl
  have C6' := Lib.hid (K5.out _ _ _ _ _ HD7.out.tab)
  clear hI7 hA7 C5' HD6 K5
  go_wp2_with fail
  refine C6'.out.mono ?_
  rintro e w8 ⟨rfl, lab8, P8, hI8, hA8⟩
  clear e3 e4
  have HD8 := Lib.hid (HD7.out.after hI8 hA8)
  have e3 := (HU5.out.below HD8.out.below).cell 0 _ rfl
  have e4 := (HU5.out.below HD8.out.below).cell 1 _ rfl
  have C7' := Lib.hid (K6.out _ _ _ _ _ HD8.out.tab HD8.out.below.size)
  clear hI8 hA8 C6' HD7 K6
  go_wp2_with fail
  refine C7'.out.mono ?_
  rintro e w9 ⟨rfl, lab9, P9, hI9, hA9⟩
  clear e3 e4
  have HD9 := Lib.hid (HD8.out.after hI9 hA9)
  have C8 := Lib.hid (KF3.out _ _ _ _ _ (HT3.out _ HD9.out.below))
  clear hI9 hA9 C7' HD8 KF3
  go_wp2_with fail
  skip
  refine C8.out.mono ?_
  rintro e w10 ⟨rfl, hb10⟩
  have hD10 := (HD9.out.later hb10).later (boxN_below w10 v)
  have hX10 := Bx.new (HD9.out.later hb10) v
  obtain ⟨b10, hb'10⟩ : ∃ b10, w10.heap.size = b10 := ⟨_, rfl⟩
  obtain ⟨W10, hW10⟩ : ∃ W10, w10.alloc (.cells #[.int .i64 v.1, .int .i64 v.2] 28) = W10 := ⟨_, rfl⟩
  rw [hW10] at hD10 hX10 
  rw [hb'10] at hX10
  have HD10 := Lib.hid hD10
  have HX10 := Lib.hid hX10
  have HW10 := Lib.hid hW10
  have C9 := Lib.hid (KF6.out _ _ _ _ _ HD10.out.tab)
  clear hb10 hD10 hX10 hW10  C8 HD9 KF6
  go_wp2_with fail
  rw [HW10.out]
  refine C9.out.mono ?_
  rintro e w11 ⟨rfl, hb11⟩
  have hD11 := (HD10.out.later hb11).later (boxN_below w11 o)
  have hX11 := Bx.new (HD10.out.later hb11) o
  have hX10' := (HX10.out.later hb11).later (boxN_below w11 o)
  obtain ⟨b11, hb'11⟩ : ∃ b11, w11.heap.size = b11 := ⟨_, rfl⟩
  obtain ⟨W11, hW11⟩ : ∃ W11, w11.alloc (.cells #[.int .i64 o.1, .int .i64 o.2] 28) = W11 := ⟨_, rfl⟩
  rw [hW11] at hD11 hX11 hX10'
  rw [hb'11] at hX11
  have HD11 := Lib.hid hD11
  have HX11 := Lib.hid hX11
  have HW11 := Lib.hid hW11
  have HX10 := Lib.hid hX10'
  have C10 := Lib.hid (KP3.out _ _ _ _ _ (HT3.out _ HD11.out.below))
  clear hb11 hD11 hX11 hW11 hX10' C9 HD10 KP3
  go_wp2_with fail
  rw [HW11.out]
  refine C10.out.mono ?_
  rintro e w12 ⟨rfl, hb12⟩
  have hD12 := (HD11.out.later hb12).later (boxN_below w12 v)
  have hX12 := Bx.new (HD11.out.later hb12) v
  have hX10' := (HX10.out.later hb12).later (boxN_below w12 v)
  have hX11' := (HX11.out.later hb12).later (boxN_below w12 v)
  obtain ⟨b12, hb'12⟩ : ∃ b12, w12.heap.size = b12 := ⟨_, rfl⟩
  obtain ⟨W12, hW12⟩ : ∃ W12, w12.alloc (.cells #[.int .i64 v.1, .int .i64 v.2] 28) = W12 := ⟨_, rfl⟩
  rw [hW12] at hD12 hX12 hX10' hX11'
  rw [hb'12] at hX12
  have HD12 := Lib.hid hD12
  have HX12 := Lib.hid hX12
  have HW12 := Lib.hid hW12
  have HX10 := Lib.hid hX10'
  have HX11 := Lib.hid hX11'
  have C11 := Lib.hid (KP6.out _ _ _ _ _ HD12.out.tab)
  clear hb12 hD12 hX12 hW12 hX10' hX11' C10 HD11 KP6
  go_wp2_with fail
  rw [HW12.out]
  refine C11.out.mono ?_
  rintro e w13 ⟨rfl, hb13⟩
  have hD13 := (HD12.out.later hb13).later (boxN_below w13 o)
  have hX13 := Bx.new (HD12.out.later hb13) o
  have hX10' := (HX10.out.later hb13).later (boxN_below w13 o)
  have hX11' := (HX11.out.later hb13).later (boxN_below w13 o)
  have hX12' := (HX12.out.later hb13).later (boxN_below w13 o)
  obtain ⟨b13, hb'13⟩ : ∃ b13, w13.heap.size = b13 := ⟨_, rfl⟩
  obtain ⟨W13, hW13⟩ : ∃ W13, w13.alloc (.cells #[.int .i64 o.1, .int .i64 o.2] 28) = W13 := ⟨_, rfl⟩
  rw [hW13] at hD13 hX13 hX10' hX11' hX12'
  rw [hb'13] at hX13
  have HD13 := Lib.hid hD13
  have HX13 := Lib.hid hX13
  have HW13 := Lib.hid hW13
  have HX10 := Lib.hid hX10'
  have HX11 := Lib.hid hX11'
  have HX12 := Lib.hid hX12'
  have C12 := Lib.hid (K7.out _ _ _ _ _ HD13.out.tab HD13.out.below.size (HQ.out _ (HR.out _ HD13.out.below)))
  clear hb13 hD13 hX13 hW13 hX10' hX11' hX12' C11 HD12 K7
  go_wp2_with fail
  rw [HW13.out]
  refine C12.out.mono ?_
  rintro e w14 ⟨rfl, lab14, P14, hI14, hA14⟩
  have HD14 := Lib.hid (HD13.out.after hI14 hA14)
  have HX10 := Lib.hid (HX10.out.after hA14)
  have HX11 := Lib.hid (HX11.out.after hA14)
  have HX12 := Lib.hid (HX12.out.after hA14)
  have HX13 := Lib.hid (HX13.out.after hA14)
  have HFd := Lib.hid (find_any (HT3.out _ HD14.out.below) u (by unfold maxLen; have := HU3.out; omega))
  have HMn := Lib.hid (many_any (HT3.out _ HD14.out.below))
  have HN3 := Lib.hid (HT3.out _ HD14.out.below).many
  have HF := Lib.hid (HB1.out.trans ((HR.out _ HD14.out.below).mono HB1.out.size))
  have HVe := Lib.hid (HV5.out.below HD14.out.below)
  have HUe := Lib.hid (HU5.out.below HD14.out.below)
  clear hI14 hA14 C12 HD13 HQ HT HT3 HR HV5 HU5 HD14 HB1 HU3 hx2 hX2 hXb
  go_wp2_with fail
  obtain ⟨a0, a1, _, _⟩ := HX10.out.blk.two
  obtain ⟨a2, a3, _, _⟩ := HX11.out.blk.two
  obtain ⟨a4, a5, _, _⟩ := HX12.out.blk.two
  obtain ⟨a6, a7, _, _⟩ := HX13.out.blk.two
  obtain ⟨a8, a9, _, _⟩ := HVe.out.two
  obtain ⟨a10, a11, _, _⟩ := HUe.out.two
  obtain ⟨q1, q2, q3⟩ := HM5.out
  obtain ⟨N3, hN3⟩ : ∃ N3, T3.syms.length = N3 := ⟨_, rfl⟩
  rw [hN3] at HMn q2 q3
  have hN4 : N3 ≤ 16384 := by rw [← hN3]; exact HN3.out
  clear HX10 HX11 HX12 HX13 HVe HUe HM5 hN3 HN3 HW10 HW11 HW12 HW13
  cases hfu : T3.find u with
  | some n =>
    obtain ⟨rfl, rfl, hn⟩ := q2 n hfu
    have HFd : Hid (Calls Tryd.prog 58 #[tptr tp, .string u] w14 fun e w' => e = .returned (.tuple #[.int .i64 (n : Int), .bool true]) ∧ w14 = w') := by
      have h1 := HFd.out
      rw [hfu] at h1
      exact h1
    have hlt : ¬ (N3 : Int) ≤ (n : Int) := by omega
    have hlt2 : ¬ N3 ≤ n := by omega
    clear q2 q3 hfu
    by_cases hus : u.toList = s.toList
    · by_cases her : er = 0
      · subst her
        obtain ⟨rfl, rfl⟩ := q1 rfl
        clear q1
        refine HFd.out.mono ?_
        rintro e w15 ⟨rfl, rfl⟩
        go_wp2_with fail
        go_ret
        exact ⟨rfl, HF.out⟩
      · have hze : (er == 0) = false := beq_eq_false_iff_ne.2 her
        clear q1
        refine HFd.out.mono ?_
        rintro e w15 ⟨rfl, rfl⟩
        go_wp2_with fail
        go_ret
        exact ⟨rfl, HF.out⟩
    · have hus2 : (u.toList == s.toList) = false := beq_eq_false_iff_ne.2 hus
      by_cases her : er = 0
      · subst her
        obtain ⟨rfl, rfl⟩ := q1 rfl
        clear q1
        refine HFd.out.mono ?_
        rintro e w15 ⟨rfl, rfl⟩
        go_wp2_with fail
        refine HMn.out.mono ?_
        rintro e w15 ⟨rfl, rfl⟩
        go_wp2_with fail
        go_ret
        exact ⟨rfl, HF.out⟩
      · have hze : (er == 0) = false := beq_eq_false_iff_ne.2 her
        clear q1
        refine HFd.out.mono ?_
        rintro e w15 ⟨rfl, rfl⟩
        go_wp2_with fail
        refine HMn.out.mono ?_
        rintro e w15 ⟨rfl, rfl⟩
        go_wp2_with fail
        go_ret
        exact ⟨rfl, HF.out⟩
  | none =>
    have HFd : Hid (Calls Tryd.prog 58 #[tptr tp, .string u] w14 fun e w' => e = .returned (.tuple #[.int .i64 0, .bool false]) ∧ w14 = w') := by
      have h1 := HFd.out
      rw [hfu] at h1
      exact h1
    have q4 := q3 hfu
    clear q2 q3 hfu
    by_cases hf0 : f = 0
    · subst hf0
      obtain rfl := q4 rfl
      clear q4
      by_cases hus : u.toList = s.toList
      · by_cases her : er = 0
        · subst her
          obtain ⟨rfl, rfl⟩ := q1 rfl
          clear q1
          refine HFd.out.mono ?_
          rintro e w15 ⟨rfl, rfl⟩
          go_wp2_with fail
          go_ret
          exact ⟨rfl, HF.out⟩
        · have hze : (er == 0) = false := beq_eq_false_iff_ne.2 her
          clear q1
          refine HFd.out.mono ?_
          rintro e w15 ⟨rfl, rfl⟩
          go_wp2_with fail
          go_ret
          exact ⟨rfl, HF.out⟩
      · have hus2 : (u.toList == s.toList) = false := beq_eq_false_iff_ne.2 hus
        by_cases her : er = 0
        · subst her
          obtain ⟨rfl, rfl⟩ := q1 rfl
          clear q1
          refine HFd.out.mono ?_
          rintro e w15 ⟨rfl, rfl⟩
          go_wp2_with fail
          refine HMn.out.mono ?_
          rintro e w15 ⟨rfl, rfl⟩
          go_wp2_with fail
          go_ret
          exact ⟨rfl, HF.out⟩
        · have hze : (er == 0) = false := beq_eq_false_iff_ne.2 her
          clear q1
          refine HFd.out.mono ?_
          rintro e w15 ⟨rfl, rfl⟩
          go_wp2_with fail
          refine HMn.out.mono ?_
          rintro e w15 ⟨rfl, rfl⟩
          go_wp2_with fail
          go_ret
          exact ⟨rfl, HF.out⟩
    · have hzf : (f == 0) = false := beq_eq_false_iff_ne.2 hf0
      clear q4
      by_cases her : er = 0
      · subst her
        obtain ⟨rfl, rfl⟩ := q1 rfl
        clear q1
        refine HFd.out.mono ?_
        rintro e w15 ⟨rfl, rfl⟩
        go_wp2_with fail
        go_ret
        exact ⟨rfl, HF.out⟩
      · have hze : (er == 0) = false := beq_eq_false_iff_ne.2 her
        clear q1
        refine HFd.out.mono ?_
        rintro e w15 ⟨rfl, rfl⟩
        go_wp2_with fail
        go_ret
        exact ⟨rfl, HF.out⟩

theorem apart_walk (s u : ByteArray) (n : Int) (v o : Wd) (w : World) (hs : s.size ≤ maxLen) (hu : u.size ≤ maxLen) (hT : Tabs w) :
    Calls Tryd.prog 12 #[.string s, .string u, .int .i64 n, wdv v, wdv o] w fun e w' => e = .returned (.bool true) ∧ Below w.heap.size w w' := by
  by_cases h1 : 300 < s.size
  · exact apart_light s u n v o w hs hu hT (.inl h1)
  · by_cases h2 : 300 < u.size
    · exact apart_light s u n v o w hs hu hT (.inr h2)
    · exact apart_core s u n v o w (by omega) (by omega) hT
end Go.Proofs.YtcdlfgggmigcnaaDoor.Nt
