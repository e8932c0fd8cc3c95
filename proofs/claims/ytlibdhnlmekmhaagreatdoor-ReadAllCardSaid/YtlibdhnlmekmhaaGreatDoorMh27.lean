/- A form does not depend on what stands behind it and a blank: the induction. | In a heap and a table with room enough no form is refused for want of it. | The contracts of intern and cons. -/
import Derived.Deep.RegionHeld3
import Derived.BigQuiet
import Derived.Test.YtlibdhnlmekmhaaGreatDoorMh25
import Derived.Test.YtlibdhnlmekmhaaGreatDoorMh26
/- A form does not depend on what stands behind it and a blank: the induction. -/
section
namespace Go.Proofs.YtlibdhnlmekmhaaGreatDoor.Rd
open Go.RowKit
open Go.Proofs.YtlibdhnlmekmhaaGreatDoor.Hp Go.Proofs.YtlibdhnlmekmhaaGreatDoor.Add Go.Proofs.YtlibdhnlmekmhaaGreatDoor.Make Go.Proofs.YtlibdhnlmekmhaaGreatDoor.Utf Go.Proofs.YtlibdhnlmekmhaaGreatDoor.Chars
open Go.Proofs.YtlibdhnlmekmhaaGreatDoor.Nt hiding Wd

theorem split_two {v l1 r : List Int} (h1 : Lt (v ++ l1) r) (h2 : Lt r l1) : ∃ t w, t ≠ [] ∧ w ≠ [] ∧ v = t ++ w ∧ r = w ++ l1 := by
  obtain ⟨t, ht, e1⟩ := h1.split
  obtain ⟨w, hw, e2⟩ := h2.split
  refine ⟨t, w, ht, hw, ?_, e2⟩
  rw [e2, ← List.append_assoc] at e1
  exact List.append_cancel_right e1
theorem elemG_ext {F : St → Res Wd} {E : List Wd → St → Res (List Wd × Wd)} {acc : List Wd} (lF : ∀ s x s', F s = .ok x s' → Lt s.rest s'.rest) (lE : ∀ a s x s', E a s = .ok x s' → Lt s.rest s'.rest) (hF : Ext F) (hE : ∀ a, ExtA (E a)) : ExtA (elemG F E acc) := by
  intro u l1 l2 ob tb x ob' tb' h
  have hlt := elemG_lt lF (fun a s x s' h => (lE a s x s' h).1) h
  simp only at hlt
  obtain ⟨v, hv, hk⟩ := hlt.split
  have hk2 := skipF_ext u false v l1 l2 hv hk
  unfold elemG at h ⊢
  simp only [hk, hk2] at h ⊢
  rw [head_of (l1 := l1) hv l2]
  split at h
  · rename_i e
    rw [if_pos e]
    simp only [Res.ok.injEq, St.mk.injEq] at h
    obtain ⟨h1, h2, h3, h4⟩ := h
    rw [tail_of (l1 := l1) hv l1] at h2
    rw [tail_of (l1 := l1) hv l2, app_nil h2]
    simp [h1, h3, h4]
  · rename_i e
    rw [if_neg e]
    split at h
    · rename_i ed
      unfold tailG at h
      rw [tail_of (l1 := l1) hv l1] at h
      split at h
      · rename_i y s2 he
        obtain ⟨r, ob2, tb2⟩ := s2
        have hl := lF _ _ _ he
        simp only at hl h
        split at h
        · cases h
        · rename_i d r2 hk3
          split at h
          · rename_i ed2
            simp only [Res.ok.injEq, St.mk.injEq] at h
            obtain ⟨h1, rfl, h3, h4⟩ := h
            have hl2 : Lt r r2 := by
              have := skipF_suf r false
              rw [hk3] at this
              exact .of_suf this Lt.tail
            obtain ⟨t, w, ht, hw, hvt, rfl⟩ := split_two hl hl2
            have hvt2 : v.tail ≠ [] := by rw [hvt]; simp [ht]
            rw [dotB_ext (l1 := r2) hv hvt2 l2, if_pos ed]
            unfold tailG
            rw [tail_of (l1 := r2) hv l2, hvt, List.append_assoc]
            rw [hvt, List.append_assoc] at he
            rw [hF t (w ++ r2) (w ++ l2) _ _ _ _ _ (Same1.of_ne hw) he]
            simp only
            rw [skipF_ext w false [d] r2 l2 (by simp) hk3]
            simp only [List.cons_append, List.nil_append]
            rw [if_pos ed2]
            simp [h1, h3, h4]
          · cases h
      · cases h
    · rename_i ed
      split at h
      · rename_i y s2 he
        obtain ⟨r, ob2, tb2⟩ := s2
        have hl := lF _ _ _ he
        have hl2 := lE _ _ _ _ h
        simp only at hl hl2
        obtain ⟨t, w, ht, hw, hvt, rfl⟩ := split_two hl hl2
        have hvt2 : v.tail ≠ [] := by
          rw [hvt]
          cases t with
          | nil => exact absurd rfl ht
          | cons c t => simp [hw]
        rw [dotB_ext (l1 := l1) hv hvt2 l2, if_neg ed, hvt, List.append_assoc]
        rw [hvt, List.append_assoc] at he
        rw [hF t (w ++ l1) (w ++ l2) _ _ _ _ _ (Same1.of_ne hw) he]
        simp only
        exact hE _ w l1 l2 _ _ _ _ _ h
      · cases h
theorem eachG_ext {F : St → Res Wd} {V : List Wd → St → Res (List Wd)} {acc : List Wd} (lF : ∀ s x s', F s = .ok x s' → Lt s.rest s'.rest) (lV : ∀ a s x s', V a s = .ok x s' → Lt s.rest s'.rest) (hF : Ext F) (hV : ∀ a, ExtA (V a)) : ExtA (eachG F V acc) := by
  intro u l1 l2 ob tb x ob' tb' h
  have hlt := eachG_lt lF (fun a s x s' h => (lV a s x s' h).1) h
  simp only at hlt
  obtain ⟨v, hv, hk⟩ := hlt.split
  have hk2 := skipF_ext u false v l1 l2 hv hk
  unfold eachG at h ⊢
  simp only [hk, hk2] at h ⊢
  rw [head_of (l1 := l1) hv l2]
  split at h
  · rename_i e
    rw [if_pos e]
    simp only [Res.ok.injEq, St.mk.injEq] at h
    obtain ⟨h1, h2, h3, h4⟩ := h
    rw [tail_of (l1 := l1) hv l1] at h2
    rw [tail_of (l1 := l1) hv l2, app_nil h2]
    simp [h1, h3, h4]
  · rename_i e
    rw [if_neg e]
    split at h
    · rename_i y s2 he
      obtain ⟨r, ob2, tb2⟩ := s2
      have hl := lF _ _ _ he
      have hl2 := lV _ _ _ _ h
      simp only at hl hl2
      obtain ⟨t, w, ht, hw, hvt, rfl⟩ := split_two hl hl2
      rw [hvt, List.append_assoc]
      rw [hvt, List.append_assoc] at he
      rw [hF t (w ++ l1) (w ++ l2) _ _ _ _ _ (Same1.of_ne hw) he]
      simp only
      exact hV _ w l1 l2 _ _ _ _ _ h
    · cases h
theorem M_lt (lim : Nat) : ∀ k, (∀ o a s x s', elemM lim k o a s = .ok x s' → Lt s.rest s'.rest) ∧ ∀ o a s x s', eachM lim k o a s = .ok x s' → Lt s.rest s'.rest
  | 0 => ⟨fun _ _ _ _ _ h => (by cases h), fun _ _ _ _ _ h => (by cases h)⟩
  | k + 1 => by
    obtain ⟨h1, h2, h3⟩ := M_suf lim k
    refine ⟨fun o a s x s' h => ?_, fun o a s x s' h => ?_⟩
    · rw [elemM_succ] at h
      exact .of_suf (skipF_suf _ _) (elemG_lt (h1 _) (h2 _) h)
    · rw [eachM_succ] at h
      exact .of_suf (skipF_suf _ _) (eachG_lt (h1 _) (h3 _) h)
theorem M_ext (lim : Nat) : ∀ k, (∀ o, Ext (formM lim k o)) ∧ (∀ o a, ExtA (elemM lim k o a)) ∧ ∀ o a, ExtA (eachM lim k o a)
  | 0 => ⟨fun _ _ _ _ _ _ _ _ _ _ h => (by cases h), fun _ _ _ _ _ _ _ _ _ _ h => (by cases h), fun _ _ _ _ _ _ _ _ _ _ h => (by cases h)⟩
  | k + 1 => by
    obtain ⟨h1, h2, h3⟩ := M_suf lim k
    obtain ⟨g2, g3⟩ := M_lt lim k
    obtain ⟨e1, e2, e3⟩ := M_ext lim k
    refine ⟨fun o => ?_, fun o a => ?_, fun o a => ?_⟩
    · rw [formM_succ]
      exact formG_ext (h1 _) (h2 _ _) (h3 _ _) (e1 _) (e2 _ _) (e3 _ _)
    · rw [elemM_succ]
      exact elemG_ext (h1 _) (g2 _) (e1 _) (e2 _)
    · rw [eachM_succ]
      exact eachG_ext (h1 _) (g3 _) (e1 _) (e3 _)
/-- The theorem of the stage, in plain words: a form is read the same in front of a blank. -/
theorem form_behind {lim k o : Nat} {u r B : List Int} {ob ob' : Obs} {tb tb' : Tb} {x : Wd} (h : formM lim k o ⟨u ++ r, ob, tb⟩ = .ok x ⟨r, ob', tb'⟩) : formM lim k o ⟨u ++ 32 :: B, ob, tb⟩ = .ok x ⟨32 :: B, ob', tb'⟩ :=
  (M_ext lim k).1 o u r (32 :: B) ob tb x ob' tb' (.inl ⟨B, rfl⟩) h
end Go.Proofs.YtlibdhnlmekmhaaGreatDoor.Rd
end

/- In a heap and a table with room enough no form is refused for want of it. -/
section
namespace Go.Proofs.YtlibdhnlmekmhaaGreatDoor.Rd
open Go.RowKit Go.Lib
open Go.Proofs.YtlibdhnlmekmhaaGreatDoor.Hp Go.Proofs.YtlibdhnlmekmhaaGreatDoor.Add Go.Proofs.YtlibdhnlmekmhaaGreatDoor.Make Go.Proofs.YtlibdhnlmekmhaaGreatDoor.Utf Go.Proofs.YtlibdhnlmekmhaaGreatDoor.Strs
open Go.Proofs.YtlibdhnlmekmhaaGreatDoor.Nt hiding Wd

/-- Room for what is left to read. -/
structure Ro (lim : Nat) (s : St) : Prop where
  m : manyTo s.ob lim + 2 * s.rest.length ≤ lim
  u : usedTo s.ob lim + 4 * s.rest.length ≤ 1048576
  t : s.tb.syms.length + s.rest.length ≤ 16384
  n : s.rest.length ≤ 65536
/-- What was read made at most so much; a, b: how many words are held before and behind. -/
structure Lo (lim a b : Nat) (s s' : St) : Prop where
  m : manyTo s'.ob lim + 2 * s'.rest.length + b ≤ manyTo s.ob lim + 2 * s.rest.length + a
  u : usedTo s'.ob lim + 4 * s'.rest.length + b ≤ usedTo s.ob lim + 4 * s.rest.length + a
  t : s'.tb.syms.length + s'.rest.length ≤ s.tb.syms.length + s.rest.length
  n : s'.rest.length + b ≤ s.rest.length + a
  g : s.tb.syms.length ≤ s'.tb.syms.length
/-- The errors that are left. -/
abbrev Er (c : Int) : Prop := c = 4 ∨ c = 5 ∨ c = 12 ∨ c = 15
def Fine {α : Type} (lim a : Nat) (k : α → Nat) (s : St) : Res α → Prop
  | .ok x s' => Lo lim a (k x) s s'
  | .err c _ _ _ => Er c
theorem Ro.le {lim : Nat} {ob : Obs} {tb : Tb} {r r' : List Int} (h : Ro lim ⟨r, ob, tb⟩) (hl : r'.length ≤ r.length) : Ro lim ⟨r', ob, tb⟩ := by
  obtain ⟨h1, h2, h3, h4⟩ := h
  refine ⟨?_, ?_, ?_, ?_⟩ <;> simp only at * <;> omega
theorem Ro.next {lim b : Nat} {s s' : St} (h : Ro lim s) (hl : Lo lim 0 b s s') : Ro lim s' := by
  obtain ⟨h1, h2, h3, h4⟩ := h
  obtain ⟨k1, k2, k3, k4, k5⟩ := hl
  constructor <;> omega
theorem addO_room {ob : Obs} {lim : Nat} {o : Ob} (h : manyTo ob lim < lim) (hu : usedTo ob lim + o.size ≤ 1048576) :
    (addO ob lim o).2.1 = 0 ∧ manyTo (addO ob lim o).2.2 lim = manyTo ob lim + 1 ∧ usedTo (addO ob lim o).2.2 lim = usedTo ob lim + o.size := by
  have hf := (freeTo_lt_iff ob lim).2 (by omega)
  have hn := (freeTo_spec ob lim).2.2 hf
  unfold addO
  rw [if_pos ⟨hf, hu⟩]
  have h1 := manyTo_put ob lim (freeTo ob lim) (some o) hf
  have h2 := usedTo_put ob lim (freeTo ob lim) (some o) hf
  rw [hn] at h1 h2
  simp only [sizeO, Option.isSome_none, Option.isSome_some, if_true, Bool.false_eq_true, if_false] at h1 h2
  exact ⟨rfl, by omega, by omega⟩
theorem consR_room {lim : Nat} : ∀ (l : List Wd) (w : Wd) (ob : Obs), manyTo ob lim + l.length ≤ lim → usedTo ob lim ≤ 1048576 →
    (consR lim l w ob).2.1 = 0 ∧ manyTo (consR lim l w ob).2.2 lim = manyTo ob lim + l.length ∧ usedTo (consR lim l w ob).2.2 lim = usedTo ob lim
  | [], _, _, _, _ => ⟨rfl, rfl, rfl⟩
  | x :: l, w, ob, h, hu => by
    rw [List.length_cons] at h
    obtain ⟨a1, a2, a3⟩ := addO_room (ob := ob) (lim := lim) (o := .cons x w) (by omega) (by simpa [Ob.size] using hu)
    simp only [Ob.size, Nat.add_zero] at a3
    have ih := consR_room (lim := lim) l (addO ob lim (.cons x w)).1 (addO ob lim (.cons x w)).2.2 (by omega) (by omega)
    unfold consR
    rw [if_pos a1, List.length_cons]
    exact ⟨ih.1, by omega, by omega⟩
theorem intern_room {t : Tb} {s : ByteArray} (h : t.syms.length < 16384) : ((internO t s).2.1 ≠ 0 → Er (internO t s).2.1) ∧ (internO t s).2.2.syms.length ≤ t.syms.length + 1 ∧ t.syms.length ≤ (internO t s).2.2.syms.length := by
  unfold internO
  split
  · exact ⟨fun h => (h rfl).elim, by simp, by simp⟩
  · split
    · exact ⟨fun h => (h rfl).elim, by simp, by simp⟩
    · rename_i h0
      refine ⟨fun _ => ?_, by simp, by simp⟩
      unfold freshO at h0 ⊢
      split
      · show Er 5; decide
      · rename_i hv
        split
        · show Er 4; decide
        · rename_i hl
          rw [if_neg hv, if_neg hl, if_neg (by omega)] at h0
          exact (h0 rfl).elim
theorem symG_room {lim : Nat} {s : St} {acc r : List Int} (h : Ro lim s) (hr : r.length < s.rest.length) : Fine lim 0 (fun _ => 1) s (symG s acc r) := by
  obtain ⟨h1, h2, h3, h4⟩ := h
  obtain ⟨i1, i2, i3⟩ := intern_room (t := s.tb) (s := strOf (enc acc)) (by omega)
  unfold symG
  split
  · refine ⟨?_, ?_, ?_, ?_, ?_⟩ <;> simp only at * <;> omega
  · rename_i h0
    exact i1 h0
theorem intG_room {lim : Nat} {s : St} {acc r : List Int} (hr : r.length < s.rest.length) : Fine lim 0 (fun _ => 1) s (intG s acc r) := by
  unfold intG
  split
  · refine ⟨?_, ?_, ?_, ?_, ?_⟩ <;> simp only at * <;> omega
  · show Er 15
    decide
theorem tokenG_room {lim : Nat} {s : St} {c : Int} {l : List Int} (hs : s.rest = c :: l) (hc : delimB c = false) (h : Ro lim s) : Fine lim 0 (fun _ => 1) s (tokenG s) := by
  unfold tokenG
  split
  · show Er 5
    decide
  · rename_i acc pl r ht
    rw [hs] at ht
    have hl := (tokF_lt hc ht).2
    rw [← hs] at hl
    split
    · show Er 5
      decide
    · split
      · exact intG_room hl
      · exact symG_room h hl
theorem strF_len : ∀ (k : Nat) (acc l a r : List Int), strF k acc l = .ok a r → a.length + r.length + 1 ≤ acc.length + l.length
  | 0, _, _, _, _, h => by cases h
  | _ + 1, _, [], _, _, h => by cases h
  | k + 1, acc, c :: l, a, r, h => by
    unfold strF at h
    rw [List.length_cons]
    split at h
    · cases h
      omega
    · split at h
      · split at h
        · rename_i o r' he
          have hl := (escF_lt he).2
          have ih := strF_len k _ _ _ _ h
          rw [List.length_append] at ih
          have : o.toList.length ≤ 1 := by cases o <;> simp
          omega
        · cases h
      · have ih := strF_len k _ _ _ _ h
        simp only [List.length_append, List.length_singleton] at ih
        omega
theorem lenL_le (l : List UInt8) : lenL l ≤ l.length := by
  unfold lenL
  split
  · exact runes_length l
  · omega
theorem textG_room {lim : Nat} {s : St} {c : Int} {l : List Int} (hs : s.rest = c :: l) (h : Ro lim s) : Fine lim 0 (fun _ => 1) s (textG lim s) := by
  obtain ⟨h1, h2, h3, h4⟩ := h
  unfold textG
  split
  · show Er 5
    decide
  · rename_i acc r ht
    have hl := strF_len _ _ _ _ _ ht
    rw [hs] at hl h1 h2 h3 h4
    simp only [List.tail_cons, List.length_nil, List.length_cons] at hl h1 h2 h3 h4
    have h5 := lenL_le (strOf (enc acc)).data.toList
    have h6 := enc_len4 acc
    rw [strOf_list] at h5
    unfold textO
    rw [strOf_list]
    by_cases hv : validD (enc acc) = false
    · simp only [if_pos hv]
      show Er 5
      decide
    · simp only [if_neg hv]
      by_cases hb : 65536 < lenL (enc acc)
      · simp only [if_pos hb]
        show Er 4
        decide
      · simp only [if_neg hb]
        obtain ⟨a1, a2, a3⟩ := addO_room (ob := s.ob) (lim := lim) (o := .text (strOf (enc acc)) (lenL (enc acc))) (by omega) (by simp only [Ob.size]; omega)
        simp only [Ob.size] at a3
        rw [if_pos a1]
        refine ⟨?_, ?_, ?_, ?_, ?_⟩ <;> simp only [hs, List.length_cons] at * <;> omega
theorem charG_room {lim : Nat} {s : St} {c : Int} {l : List Int} (hs : s.rest = c :: l) : Fine lim 0 (fun _ => 1) s (charG s) := by
  cases hr : charG s with
  | ok x s' =>
    have hl := (charG_lt hs hr).2
    unfold charG at hr
    split at hr
    · cases hr
    · split at hr <;> cases hr
      refine ⟨?_, ?_, ?_, ?_, ?_⟩ <;> simp only at * <;> omega
  | err c m ob tb =>
    unfold charG at hr
    split at hr
    · cases hr; show Er 5; decide
    · split at hr <;> cases hr
      show Er 5
      decide
theorem consG_room {lim : Nat} {s s2 : St} {x y : Wd} (h : manyTo s2.ob lim < lim) (hu : usedTo s2.ob lim ≤ 1048576) :
    ∃ z ob', consG lim s s2 x y = .ok z ⟨s2.rest, ob', s2.tb⟩ ∧ manyTo ob' lim = manyTo s2.ob lim + 1 ∧ usedTo ob' lim = usedTo s2.ob lim := by
  obtain ⟨a1, a2, a3⟩ := addO_room (ob := s2.ob) (lim := lim) (o := .cons x y) h (by simpa [Ob.size] using hu)
  unfold consG
  rw [if_pos a1]
  exact ⟨_, _, rfl, a2, by simpa [Ob.size] using a3⟩
theorem prefG_room {lim : Nat} {F : St → Res Wd} (hF : ∀ s, Ro lim s → Fine lim 0 (fun _ => 1) s (F s)) {o len : Nat} {n : Int} {s : St} {c : Int} {l : List Int} (hs : s.rest = c :: l) (hlen : 1 ≤ len) (h : Ro lim s) : Fine lim 0 (fun _ => 1) s (prefG lim F o n len s) := by
  unfold prefG
  split
  · show Er 12
    decide
  · have hd : (s.rest.drop len).length + 1 ≤ s.rest.length := by rw [List.length_drop, hs, List.length_cons]; omega
    have hf := hF ⟨s.rest.drop len, s.ob, s.tb⟩ (h.le (by omega))
    obtain ⟨h1, h2, h3, h4⟩ := h
    cases hr : F ⟨s.rest.drop len, s.ob, s.tb⟩ with
    | err => rw [hr] at hf; exact hf
    | ok x s2 =>
      rw [hr] at hf
      obtain ⟨k1, k2, k3, k4, k5⟩ := hf
      simp only at k1 k2 k3 k4
      obtain ⟨z, ob1, e1, m1, u1⟩ := consG_room (s := s) (s2 := s2) (x := x) (y := (1, 0)) (lim := lim) (by omega) (by omega)
      simp only [e1]
      obtain ⟨z2, ob2, e2, m2, u2⟩ := consG_room (s := s) (s2 := ⟨s2.rest, ob1, s2.tb⟩) (x := (1, n)) (y := z) (lim := lim) (by simp only; omega) (by simp only; omega)
      simp only [e2]
      refine ⟨?_, ?_, ?_, ?_, ?_⟩ <;> simp only at * <;> omega
theorem listG_room {lim : Nat} {E : St → Res (List Wd × Wd)} (hE : ∀ s, Ro lim s → Fine lim 0 (fun x => x.1.length) s (E s)) {o : Nat} {s : St} {c : Int} {l : List Int} (hs : s.rest = c :: l) (h : Ro lim s) : Fine lim 0 (fun _ => 1) s (listG lim E o s) := by
  unfold listG
  split
  · show Er 12
    decide
  · have hd : s.rest.tail.length + 1 = s.rest.length := by rw [hs]; rfl
    have hf := hE ⟨s.rest.tail, s.ob, s.tb⟩ (h.le (by omega))
    obtain ⟨h1, h2, h3, h4⟩ := h
    cases hr : E ⟨s.rest.tail, s.ob, s.tb⟩ with
    | err => rw [hr] at hf; exact hf
    | ok x s2 =>
      obtain ⟨l', w⟩ := x
      rw [hr] at hf
      obtain ⟨k1, k2, k3, k4, k5⟩ := hf
      simp only at k1 k2 k3 k4
      obtain ⟨a1, a2, a3⟩ := consR_room (lim := lim) l'.reverse w s2.ob (by rw [List.length_reverse]; omega) (by omega)
      rw [List.length_reverse] at a2
      simp only [if_pos a1]
      refine ⟨?_, ?_, ?_, ?_, ?_⟩ <;> simp only at * <;> omega
theorem vecG_room {lim : Nat} {V : St → Res (List Wd)} (hV : ∀ s, Ro lim s → Fine lim 0 (fun x => x.length) s (V s)) {o : Nat} {s : St} {c : Int} {l : List Int} (hs : s.rest = c :: l) (h : Ro lim s) : Fine lim 0 (fun _ => 1) s (vecG lim V o s) := by
  unfold vecG
  split
  · show Er 12
    decide
  · have hd : s.rest.tail.length + 1 = s.rest.length := by rw [hs]; rfl
    have hf := hV ⟨s.rest.tail, s.ob, s.tb⟩ (h.le (by omega))
    obtain ⟨h1, h2, h3, h4⟩ := h
    cases hr : V ⟨s.rest.tail, s.ob, s.tb⟩ with
    | err => rw [hr] at hf; exact hf
    | ok x s2 =>
      rw [hr] at hf
      obtain ⟨k1, k2, k3, k4, k5⟩ := hf
      simp only at k1 k2 k3 k4
      obtain ⟨a1, a2, a3⟩ := addO_room (ob := s2.ob) (lim := lim) (o := .vec x) (by omega) (by simp only [Ob.size]; omega)
      simp only [Ob.size] at a3
      have e0 : vecO s2.ob lim x = addO s2.ob lim (.vec x) := by unfold vecO; rw [if_neg (by omega)]
      simp only [e0, if_pos a1]
      refine ⟨?_, ?_, ?_, ?_, ?_⟩ <;> simp only at * <;> omega
theorem Fine.skip {α : Type} {lim a : Nat} {k : α → Nat} {s : St} {r : List Int} (hr : r.length ≤ s.rest.length) {q : Res α} (h : Fine lim a k ⟨r, s.ob, s.tb⟩ q) : Fine lim a k s q := by
  cases q with
  | err => exact h
  | ok x s' =>
    obtain ⟨h1, h2, h3, h4, h5⟩ := h
    refine ⟨?_, ?_, ?_, ?_, ?_⟩ <;> simp only at * <;> omega
theorem formG_room {lim : Nat} {F : St → Res Wd} {E : St → Res (List Wd × Wd)} {V : St → Res (List Wd)} {o : Nat} {s : St} (hF : ∀ s, Ro lim s → Fine lim 0 (fun _ => 1) s (F s)) (hE : ∀ s, Ro lim s → Fine lim 0 (fun x => x.1.length) s (E s))
    (hV : ∀ s, Ro lim s → Fine lim 0 (fun x => x.length) s (V s)) (h : Ro lim s) : Fine lim 0 (fun _ => 1) s (formG lim F E V o s) := by
  unfold formG
  split
  · show Er 5
    decide
  · rename_i c r hk
    have hsuf := (skipF_suf s.rest false).length_le
    obtain ⟨n1, n2⟩ := skipF_head _ _ _ _ hk
    rw [hk] at hsuf
    refine Fine.skip hsuf ?_
    have h' := h.le (r' := c :: r) hsuf
    unfold headG
    split
    · exact listG_room hE rfl h'
    · split
      · show Er 5
        decide
      · split
        · exact vecG_room hV rfl h'
        · split
          · exact prefG_room hF rfl (Nat.le_refl _) h'
          · split
            · exact prefG_room hF rfl (Nat.le_refl _) h'
            · split
              · unfold commaG
                split
                · exact prefG_room hF rfl (by omega) h'
                · exact prefG_room hF rfl (Nat.le_refl _) h'
              · split
                · unfold hashG
                  split
                  · exact prefG_room hF rfl (by omega) h'
                  · split
                    · exact symG_room h' (by simp only [List.length_drop, List.length_cons]; omega)
                    · show Er 5
                      decide
                · split
                  · exact textG_room rfl h'
                  · split
                    · exact charG_room rfl
                    · rename_i k1 k2 k3 k4 k5 k6 k7 k8 k9
                      refine tokenG_room rfl ?_ h'
                      simp only [not_or] at k2
                      simp [delimB, n2, n1, k1, k2, k3, k4, k5, k6, k8]
theorem Lo.then {lim a b c : Nat} {s s2 s3 : St} (h : Lo lim 0 1 s s2) (h2 : Lo lim (a + 1) b s2 s3) : Lo lim a b s s3 := by
  obtain ⟨h1, h3, h4, h5, h6⟩ := h
  obtain ⟨k1, k2, k3, k4, k5⟩ := h2
  constructor <;> omega
theorem elemG_room {lim : Nat} {F : St → Res Wd} {E : List Wd → St → Res (List Wd × Wd)} {acc : List Wd} {s : St} (hF : ∀ s, Ro lim s → Fine lim 0 (fun _ => 1) s (F s)) (hE : ∀ a s, Ro lim s → Fine lim a.length (fun x => x.1.length) s (E a s)) (h : Ro lim s) :
    Fine lim acc.length (fun x => x.1.length) s (elemG F E acc s) := by
  have hsuf := (skipF_suf s.rest false).length_le
  refine Fine.skip hsuf ?_
  have h' := h.le hsuf
  generalize hk : skipF false s.rest = R at *
  have ht : R.tail.length ≤ R.length := by rw [List.length_tail]; omega
  unfold elemG
  rw [hk]
  split
  · refine ⟨?_, ?_, ?_, ?_, ?_⟩ <;> simp only at * <;> omega
  · split
    · have hf := hF ⟨R.tail, s.ob, s.tb⟩ (h'.le ht)
      unfold tailG
      cases hr : F ⟨R.tail, s.ob, s.tb⟩ with
      | err => rw [hr] at hf; exact hf
      | ok x s2 =>
        rw [hr] at hf
        obtain ⟨k1, k2, k3, k4, k5⟩ := hf
        simp only
        split
        · show Er 5
          decide
        · rename_i d r hk2
          have h3 := (skipF_suf s2.rest false).length_le
          rw [hk2, List.length_cons] at h3
          split
          · refine ⟨?_, ?_, ?_, ?_, ?_⟩ <;> simp only at * <;> omega
          · show Er 5
            decide
    · have hf := hF ⟨R, s.ob, s.tb⟩ h'
      cases hr : F ⟨R, s.ob, s.tb⟩ with
      | err => rw [hr] at hf; exact hf
      | ok x s2 =>
        rw [hr] at hf
        have h2 := hE (acc ++ [x]) s2 (h'.next hf)
        simp only
        cases hq : E (acc ++ [x]) s2 with
        | err => rw [hq] at h2; exact h2
        | ok y s3 =>
          rw [hq] at h2
          simp only [Fine, List.length_append, List.length_singleton] at h2
          exact Lo.then (c := 0) hf h2
theorem eachG_room {lim : Nat} {F : St → Res Wd} {V : List Wd → St → Res (List Wd)} {acc : List Wd} {s : St} (hF : ∀ s, Ro lim s → Fine lim 0 (fun _ => 1) s (F s)) (hV : ∀ a s, Ro lim s → Fine lim a.length (fun x => x.length) s (V a s)) (h : Ro lim s) :
    Fine lim acc.length (fun x => x.length) s (eachG F V acc s) := by
  have hsuf := (skipF_suf s.rest false).length_le
  refine Fine.skip hsuf ?_
  have h' := h.le hsuf
  generalize hk : skipF false s.rest = R at *
  have ht : R.tail.length ≤ R.length := by rw [List.length_tail]; omega
  unfold eachG
  rw [hk]
  split
  · refine ⟨?_, ?_, ?_, ?_, ?_⟩ <;> simp only at * <;> omega
  · have hf := hF ⟨R, s.ob, s.tb⟩ h'
    cases hr : F ⟨R, s.ob, s.tb⟩ with
    | err => rw [hr] at hf; exact hf
    | ok x s2 =>
      rw [hr] at hf
      have h2 := hV (acc ++ [x]) s2 (h'.next hf)
      simp only
      cases hq : V (acc ++ [x]) s2 with
      | err => rw [hq] at h2; exact h2
      | ok y s3 =>
        rw [hq] at h2
        simp only [Fine, List.length_append, List.length_singleton] at h2
        exact Lo.then (c := 0) hf h2
theorem M_room (lim : Nat) : ∀ k, (∀ o s, Ro lim s → Fine lim 0 (fun _ => 1) s (formM lim k o s)) ∧ (∀ o a s, Ro lim s → Fine lim a.length (fun x => x.1.length) s (elemM lim k o a s)) ∧ ∀ o a s, Ro lim s → Fine lim a.length (fun x => x.length) s (eachM lim k o a s)
  | 0 => ⟨fun _ _ _ => (show Er 5 by decide), fun _ _ _ _ => (show Er 5 by decide), fun _ _ _ _ => (show Er 5 by decide)⟩
  | k + 1 => by
    obtain ⟨h1, h2, h3⟩ := M_room lim k
    refine ⟨fun o s h => ?_, fun o a s h => ?_, fun o a s h => ?_⟩
    · rw [formM_succ]
      exact formG_room (h1 _) (fun s hs => h2 _ [] s hs) (fun s hs => h3 _ [] s hs) h
    · rw [elemM_succ]
      exact elemG_room (h1 _) (h2 _) h
    · rw [eachM_succ]
      exact eachG_room (h1 _) (h3 _) h
theorem form_room {lim k o : Nat} {s : St} (h : Ro lim s) : Fine lim 0 (fun _ => 1) s (formM lim k o s) := (M_room lim k).1 o s h
end Go.Proofs.YtlibdhnlmekmhaaGreatDoor.Rd
end

/- The contracts of intern and cons. -/
section
namespace Go.Proofs.YtlibdhnlmekmhaaGreatDoor.Rd
set_option maxRecDepth 100000
open Go.RowKit
open Go.Proofs.YtlibdhnlmekmhaaGreatDoor.Own Go.Proofs.YtlibdhnlmekmhaaGreatDoor.Hp Go.Proofs.YtlibdhnlmekmhaaGreatDoor.Rep Go.Proofs.YtlibdhnlmekmhaaGreatDoor.Get Go.Proofs.YtlibdhnlmekmhaaGreatDoor.Add Go.Proofs.YtlibdhnlmekmhaaGreatDoor.Make Go.Proofs.YtlibdhnlmekmhaaGreatDoor.Utf Go.Proofs.YtlibdhnlmekmhaaGreatDoor.Strs
open Go.Proofs.YtlibdhnlmekmhaaGreatDoor.Nt hiding Wd

/-- A block of the caller's own, laid since w. -/
structure Mine (X : Fx) (w : World) (F : Nat → Prop) (b : Nat) : Prop where
  f : ¬ F b
  p : b ≠ X.p
  g : b ≠ X.g
  m : b ≠ X.mb
  low : X.w0.heap.size ≤ b
theorem PS.mine {X : Fx} {w : World} {a op b : Nat} {s : St} {F : Nat → Prop} (h : PS X w a op s F) (hb : w.heap.size ≤ b) : Mine X w F b where
  f := h.ht.fresh hb
  p := by have := h.blk.lt; omega
  g := by have := h.row.lt; omega
  m := by have := h.map.lt; omega
  low := Nat.le_trans h.below.size hb
theorem Mine.later {X : Fx} {w w1 w2 : World} {b : Nat} {F F' : Nat → Prop} (h : Mine X w F b) (hA : PAfter X w1 w2 F F') (hb : b < w1.heap.size) : Mine X w F' b := ⟨hA.old hb h.f, h.p, h.g, h.m, h.low⟩
/-- Two cells of such a block are written. -/
theorem PS.put2 {X : Fx} {w w1 : World} {a op b : Nat} {s : St} {F F' : Nat → Prop} (h : PS X w1 a op s F') (hm : Mine X w F' b) (hA : PAfter X w w1 F F') (hb : w.heap.size ≤ b) (x y : Value) :
    PS X ((w1.setCell ⟨b, 0, none⟩ x).setCell ⟨b, 1, none⟩ y) a op s F' ∧ PAfter X w ((w1.setCell ⟨b, 0, none⟩ x).setCell ⟨b, 1, none⟩ y) F F' := by
  have hk : Keeps (fun k => k = b) w1 ((w1.setCell ⟨b, 0, none⟩ x).setCell ⟨b, 1, none⟩ y) := (keeps_set w1 b 0 x).trans (keeps_set _ b 1 y)
  exact ⟨h.write hk hm.f hm.p hm.g hm.m hm.low, ⟨hA.keeps.then hk fun k hlt e => by omega, hA.grow⟩⟩
theorem PAfter.then_below {X : Fx} {w w1 w2 : World} {F F' : Nat → Prop} (h : PAfter X w w1 F F') (hb : Below w1.heap.size w1 w2) : PAfter X w w2 F F' := h.trans (.of_below hb)

/-- What a function makes of the word that a callee of its last statement returns: it lies in block n. -/
theorem Out.tail {X : Fx} {w w3 w4 : World} {op n : Nat} {F F3 : Nat → Prop} {Q : Res Wd} {e : Ending} (h : Out X w3 op F3 retW Q e w4) (hA : PAfter X w w3 F F3) (hM : Mine X w F3 n) (hn : w.heap.size ≤ n) (hB : Blk w3 n #[.int .i64 0, .int .i64 0] 28) :
    (∃ x : Wd, e = .returned (wd x) ∧ Blk w4 n #[.int .i64 0, .int .i64 0] 28 ∧ Out X w op F retW Q (.returned (wd x)) ((w4.setCell ⟨n, 0, none⟩ (.int .i64 x.1)).setCell ⟨n, 1, none⟩ (.int .i64 x.2))) ∨
    (∃ (c : Int) (k : Nat), e = .panicked [{ v := .iface 31 (.agg #[.int .i64 c, .int .i64 (k : Int)]), recovered := false }] ∧ Out X w op F retW Q (.panicked [{ v := .iface 31 (.agg #[.int .i64 c, .int .i64 (k : Int)]), recovered := false }]) w4) := by
  cases Q with
  | ok x s' =>
    obtain ⟨a', F', he, hP, hA2⟩ := h
    have hM2 := hM.later hA2 hB.lt
    have hf := hP.put2 hM2 (hA.trans hA2) hn (.int .i64 x.1) (.int .i64 x.2)
    exact .inl ⟨x, he, (hA2.blk hB hM.f hM.p).1, a', F', rfl, hf.1, hf.2⟩
  | err c m ob tb =>
    obtain ⟨he, F', hH, hA2⟩ := h
    exact .inr ⟨c, X.l.length - m, he, rfl, F', hH, hA.trans hA2⟩
/-- The symbol of a name. -/
def internR (s : St) (m : Nat) (u : ByteArray) : Res Wd :=
  if (internO s.tb u).2.1 = 0 then .ok (1, (internO s.tb u).1) ⟨s.rest, s.ob, (internO s.tb u).2.2⟩ else .err (internO s.tb u).2.1 m s.ob (internO s.tb u).2.2
theorem symG_intern (s : St) (acc r : List Int) : symG s acc r = internR ⟨r, s.ob, s.tb⟩ s.rest.length (strOf (enc acc)) := rfl
abbrev wbox0 : Obj := .cells #[.int .i64 0, .int .i64 0] 28

set_option maxHeartbeats 1000000 in
theorem PS.intern {X : Fx} {w : World} {a op : Nat} {s : St} {F : Nat → Prop} (h : PS X w a op s F) (hX : X.Ok) (u : ByteArray) (hu : u.size ≤ 4611686018427387904) (m k : Nat) (hk : k = X.l.length - m) :
    Calls Tryz.prog 170 #[pptr X.p, .string u, .int .i64 (k : Int)] w (Out X w op F retW (internR s m u)) := by
  have h1 := h.alloc wbox0
  have HI := Lib.hid (h1.ht.intern u hu (h1.sys hX).tabs)
  obtain ⟨_, c1, _, _, _, _⟩ := Blk.six h1.blk
  have hM := h.mine (Nat.le_refl _)
  have hA1 : PAfter X w (w.alloc wbox0) F F := .of_below ((Below.refl _ _).alloc (Nat.le_refl _) _)
  unfold internR
  obtain ⟨n, hn⟩ : ∃ n, (internO s.tb u).1 = n := ⟨_, rfl⟩
  obtain ⟨c, hc⟩ : ∃ c, (internO s.tb u).2.1 = c := ⟨_, rfl⟩
  obtain ⟨t, ht⟩ : ∃ t, (internO s.tb u).2.2 = t := ⟨_, rfl⟩
  rw [hn, hc, ht] at HI
  rw [hn, hc, ht]
  have HW : Hid (∀ w1, HTOk (w.alloc wbox0) w1 X.base X.hp X.lim X.tp s.ob t F → ∃ F', PS X w1 a op ⟨s.rest, s.ob, t⟩ F' ∧ PAfter X w w1 F F' ∧ Mine X w F' w.heap.size ∧ Blk w1 w.heap.size #[.int .i64 0, .int .i64 0] 28) := fun w1 hok => by
    obtain ⟨F', hP, hA⟩ := h1.ofHT hX hok
    exact ⟨F', hP, hA1.trans hA, hM.later hA (by simp), (hA.blk (Blk.new w _ _) hM.f hM.p).1⟩
  have HK := Lib.hid hk
  clear hn hc ht h1 hA1 hM h hk
  by_cases h0 : c = 0
  · subst h0
    rw [if_pos rfl]
    go_enter Tryz.func170, Tryz.ntmps170
    go_wp2_with fail
    refine HI.out.mono ?_
    rintro e w1 ⟨rfl, hok⟩
    obtain ⟨F', hP, hA, hM, hB⟩ := HW.out w1 hok
    obtain ⟨b0, b1, e0, e1⟩ := hB.two
    have HPp := Lib.hid (And.intro hP (And.intro hA hM))
    have HB := Lib.hid hB
    clear hok hP hA hM hB
    go_wp2_with (first
      | (go_at_call 120; refine (check_ok _ _).mono ?_; rintro e w2 ⟨rfl, rfl⟩))
    refine (symbol_any n _).mono ?_
    rintro e w2 ⟨rfl, hb2⟩
    have hB2 := HB.out.below hb2
    obtain ⟨d0, d1, g0, g1⟩ := hB2.two
    have HB2 := Lib.hid hb2
    clear hB2 hb2 b0 b1 e0 e1
    go_wp2_with fail
    refine bodyPost_ret (v := wd (1, n)) (by simp [results, Tryz.results170, go_sem, d0, d1]) rfl ?_
    obtain ⟨hP, hA, hM⟩ := HPp.out
    have := (hP.later HB2.out).put2 hM (hA.then_below HB2.out) (Nat.le_refl _) (.int .i64 1) (.int .i64 n)
    exact ⟨a, F', rfl, this.1, this.2⟩
  · rw [if_neg h0]
    have H0 := Lib.hid h0
    clear h0
    go_enter Tryz.func170, Tryz.ntmps170
    go_wp2_with fail
    refine HI.out.mono ?_
    rintro e w1 ⟨rfl, hok⟩
    obtain ⟨F', hP, hA, hM, hB⟩ := HW.out w1 hok
    have HPp := Lib.hid (And.intro hP hA)
    clear hok hP hA hM hB
    go_wp2_with (first
      | (go_at_call 120; refine (check_err c H0.out k _).mono ?_; rintro e w2 ⟨rfl, rfl⟩; unfold faultE))
    exact ⟨rfl, by rw [HK.out]; rfl, F', HPp.out.1.ht, HPp.out.2⟩

theorem bel_drew {w : World} : Below w.heap.size w w.drew := ⟨rfl, rfl, rfl, Nat.le_refl _, fun _ _ => rfl⟩
theorem bel_box (w : World) (o : Obj) : Below w.heap.size w (w.alloc o) := (Below.refl _ _).alloc (Nat.le_refl _) o
/-- What the region of cons loads. -/
def ConsCells (p b c : Nat) (hv : Value) (x y : Wd) (w : World) : Prop :=
  w.cell? ⟨p, 0, none⟩ = some hv ∧ w.cell? ⟨b, 0, none⟩ = some (.int .i64 x.1) ∧ w.cell? ⟨b, 1, none⟩ = some (.int .i64 x.2) ∧ w.cell? ⟨c, 0, none⟩ = some (.int .i64 y.1) ∧ w.cell? ⟨c, 1, none⟩ = some (.int .i64 y.2)
theorem consCells {X : Fx} {w : World} {a op b c : Nat} {s : St} {F : Nat → Prop} {x y : Wd} (h : PS X w a op s F) (hb : Blk w b #[.int .i64 x.1, .int .i64 x.2] 28) (hc : Blk w c #[.int .i64 y.1, .int .i64 y.2] 28) :
    ConsCells X.p b c (ptr X.hp) x y w := ⟨h.blk.cell 0 _ rfl, hb.cell 0 _ rfl, hb.cell 1 _ rfl, hc.cell 0 _ rfl, hc.cell 1 _ rfl⟩
/-- Behind the call of Cons. -/
structure Consed (X : Fx) (w W : World) (a op b c r : Nat) (s : St) (ob : Obs) (x y : Wd) (F F' : Nat → Prop) : Prop where
  ps : PS X W a op ⟨s.rest, ob, s.tb⟩ F'
  aft : PAfter X w W F F'
  b1 : Blk W b #[.int .i64 x.1, .int .i64 x.2] 28
  b2 : Blk W c #[.int .i64 y.1, .int .i64 y.2] 28
  b3 : Blk W r #[.int .i64 0, .int .i64 0] 28
  m3 : Mine X w F' r
theorem Consed.later {X : Fx} {w W W' : World} {a op b c r : Nat} {s : St} {ob : Obs} {x y : Wd} {F F' : Nat → Prop} (h : Consed X w W a op b c r s ob x y F F') (hb : Below W.heap.size W W') : Consed X w W' a op b c r s ob x y F F' :=
  ⟨h.ps.later hb, h.aft.then_below hb, h.b1.below hb, h.b2.below hb, h.b3.below hb, h.m3⟩
theorem Consed.cells {X : Fx} {w W : World} {a op b c r : Nat} {s : St} {ob : Obs} {x y : Wd} {F F' : Nat → Prop} (h : Consed X w W a op b c r s ob x y F F') : ConsCells X.p b c (ptr X.hp) x y W := consCells h.ps h.b1 h.b2
theorem Consed.put {X : Fx} {w W : World} {a op b c r B : Nat} {s : St} {ob : Obs} {x y : Wd} {F F' : Nat → Prop} (h : Consed X w W a op b c r s ob x y F F') (hm : Mine X w F' B) (hn : b ≠ B ∧ c ≠ B ∧ r ≠ B ∧ w.heap.size ≤ B) (u v : Value) :
    Consed X w ((W.setCell ⟨B, 0, none⟩ u).setCell ⟨B, 1, none⟩ v) a op b c r s ob x y F F' := by
  have hk : Keeps (fun k => k = B) W ((W.setCell ⟨B, 0, none⟩ u).setCell ⟨B, 1, none⟩ v) := (keeps_set W B 0 u).trans (keeps_set _ B 1 v)
  have := h.ps.put2 hm h.aft hn.2.2.2 u v
  exact ⟨this.1, this.2, h.b1.keeps hk hn.1, h.b2.keeps hk hn.2.1, h.b3.keeps hk hn.2.2.1, h.m3⟩

set_option maxHeartbeats 2000000 in
theorem PS.cons {X : Fx} {w : World} {a op : Nat} {s s0 : St} {F : Nat → Prop} (h : PS X w a op s F) (hX : X.Ok) (x y : Wd) (k : Nat) (hk : k = X.l.length - s0.rest.length) :
    Calls Tryz.prog 166 #[pptr X.p, wd x, wd y, .int .i64 (k : Int)] w (Out X w op F retW (consG X.lim s0 s x y)) := by
  obtain ⟨n, hn⟩ : ∃ n, w.heap.size = n := ⟨_, rfl⟩
  obtain ⟨W3, hW3⟩ : ∃ W3, W3 = ((w.alloc (.cells #[.int .i64 x.1, .int .i64 x.2] 28)).alloc (.cells #[.int .i64 y.1, .int .i64 y.2] 28)).alloc wbox0 := ⟨_, rfl⟩
  have hb3 : Below w.heap.size w W3 := by rw [hW3]; exact (((Below.refl _ _).alloc (Nat.le_refl _) _).alloc (by simp) _).alloc (by simp; omega) _
  have hz3 : W3.heap.size = n + 1 + 1 + 1 := by rw [hW3]; simp [hn]
  obtain ⟨B1, B2, B3⟩ := three_new (w := w) (a := #[.int .i64 x.1, .int .i64 x.2]) (b := #[.int .i64 y.1, .int .i64 y.2]) (c := #[.int .i64 0, .int .i64 0]) (s := 28) (t := 28) (u := 28) (w2 := W3) (by rw [hW3]; exact Below.refl _ _)
  have hP3 := h.later hb3
  have hA3 : PAfter X w W3 F F := .of_below hb3
  have m3 := h.mine (b := w.heap.size + 1 + 1) (by omega)
  have m1 := h.mine (b := w.heap.size) (Nat.le_refl _)
  have m2 := h.mine (b := w.heap.size + 1) (by omega)
  rw [hn] at B1 B2 B3 m1 m2 m3
  unfold consG
  obtain ⟨z, hz⟩ : ∃ z, (addO s.ob X.lim (.cons x y)).1 = z := ⟨_, rfl⟩
  obtain ⟨c, hc⟩ : ∃ c, (addO s.ob X.lim (.cons x y)).2.1 = c := ⟨_, rfl⟩
  obtain ⟨ob, hob⟩ : ∃ o, (addO s.ob X.lim (.cons x y)).2.2 = o := ⟨_, rfl⟩
  rw [hz, hc, hob]
  have hC : ∀ W, Below W3.heap.size W3 W → Calls Tryz.prog 55 #[ptr X.hp, wd x, wd y] W fun e w' => e = .returned (.tuple #[wd z, .int .i64 c]) ∧ ∃ F', Consed X w w' a op n (n + 1) (n + 1 + 1) s ob x y F F' ∧ PAfter X W w' F F' := fun W hW => by
    have := (hP3.later hW).ht.cons x y
    rw [hz, hc, hob] at this
    refine this.mono fun e w' ⟨he, hok⟩ => ⟨he, ?_⟩
    obtain ⟨F', hP, hA⟩ := (hP3.later hW).ofHT hX hok
    have lt : ∀ b, b < n + 1 + 1 + 1 → b < W.heap.size := fun b hb => by have := hW.size; omega
    exact ⟨F', ⟨hP, (hA3.then_below hW).trans hA, (hA.blk (B1.below hW) m1.f m1.p).1, (hA.blk (B2.below hW) m2.f m2.p).1, (hA.blk (B3.below hW) m3.f m3.p).1, m3.later hA (lt _ (by omega))⟩, hA⟩
  have hC2 : Calls Tryz.prog 55 #[ptr X.hp, wd x, wd y] (W3.alloc wbox0).drew fun e w' => e = .returned (.tuple #[wd z, .int .i64 c]) ∧ ∃ F', Consed X w w' a op n (n + 1) (n + 1 + 1) s ob x y F F' ∧ Blk w' W3.heap.size #[.int .i64 0, .int .i64 0] 28 ∧ Mine X w F' W3.heap.size := by
    have hbw : Below W3.heap.size W3 (W3.alloc wbox0).drew := (bel_box _ _).drew
    refine (hC _ hbw).mono fun e w' ⟨he, F', hc', hA⟩ => ⟨he, F', hc', ?_⟩
    have m4 := h.mine (b := W3.heap.size) (by omega)
    have hB4 : Blk (W3.alloc wbox0).drew W3.heap.size #[.int .i64 0, .int .i64 0] 28 := Blk.new W3 _ _
    exact ⟨(hA.blk hB4 m4.f m4.p).1, m4.later hA hB4.lt⟩
  have HC := Lib.hid hC
  have HC2 := Lib.hid hC2
  have hS := consCells hP3 B1 B2
  have HS := Lib.hid (fun W (hW : Below W3.heap.size W3 W) => consCells (hP3.later hW) (B1.below hW) (B2.below hW))
  obtain ⟨s0', s1, s2, s3, s4⟩ := hS
  have HK := Lib.hid hk
  have HNe := Lib.hid (show n ≠ W3.heap.size ∧ n + 1 ≠ W3.heap.size ∧ n + 1 + 1 ≠ W3.heap.size ∧ w.heap.size ≤ W3.heap.size by omega)
  have HZ := Lib.hid hz3
  have HN := Lib.hid hn
  have HBx := Lib.hid (bel_drew (w := W3))
  obtain ⟨R, hR⟩ : ∃ R, (if c = 0 then Res.ok z ⟨s.rest, ob, s.tb⟩ else Res.err c s0.rest.length ob s.tb) = R := ⟨_, rfl⟩
  rw [hR]
  have HR := Lib.hid hR
  clear hR
  clear hC hC2 hk m1 m2 m3 B1 B2 B3 hP3 hA3 hb3 hz3 hz hc hob h hn
  go_enter Tryz.func166, Tryz.ntmps166
  go_wp2_with fail
  rw [← hW3]
  have hn := HN.out
  rw [hn]
  clear hW3 hn
  go_region_held3 (fun w' => w'.cell? ⟨X.p, 0, none⟩ = some (.pointer (some ⟨X.hp, 0, none⟩)) ∧ w'.cell? ⟨n, 0, none⟩ = some (.int .i64 x.1) ∧ w'.cell? ⟨n, 1, none⟩ = some (.int .i64 x.2) ∧ w'.cell? ⟨n + 1, 0, none⟩ = some (.int .i64 y.1) ∧ w'.cell? ⟨n + 1, 1, none⟩ = some (.int .i64 y.2))
    (first | exact HQ.out.cells | exact (HQ.out.put HM4.out HNe.out _ _).cells | exact (HQ.out.later (bel_box _ _)).cells | exact HS.out _ HBx.out | exact HS.out _ (bel_box _ _).drew)
    (first
      | (go_at_call 55; refine (HC.out _ HBx.out).mono ?_; rintro e w7 ⟨rfl, F', hq, _⟩; have HQ := Lib.hid hq; clear hq)
      | (go_at_call 55; refine HC2.out.mono ?_; rintro e w7 ⟨rfl, F', hq, hb4, hm4⟩; obtain ⟨t0, t1, t2, t3⟩ := hb4.two; have HB4 := Lib.hid hb4; have HM4 := Lib.hid hm4; have HQ := Lib.hid hq; clear hq hb4 hm4))
  all_goals (
    first
      | (have hq8 := HQ.out.put HM4.out HNe.out (.int .i64 z.1) (.int .i64 z.2)
         have hb8 : Blk ((w7.setCell ⟨W3.heap.size, 0, none⟩ (.int .i64 z.1)).setCell ⟨W3.heap.size, 1, none⟩ (.int .i64 z.2)) W3.heap.size #[.int .i64 z.1, .int .i64 z.2] 28 := by simpa using (HB4.out.set 0 (.int .i64 z.1)).set 1 (.int .i64 z.2)
         obtain ⟨W8, hW8⟩ : ∃ W, (w7.setCell ⟨W3.heap.size, 0, none⟩ (.int .i64 z.1)).setCell ⟨W3.heap.size, 1, none⟩ (.int .i64 z.2) = W := ⟨_, rfl⟩
         rw [hW8] at hq8 hb8 ⊢
         obtain ⟨b8, hb8e⟩ : ∃ b, W3.heap.size = b := ⟨_, rfl⟩
         rw [hb8e] at hb8 ⊢
         clear t0 t1 t2 t3)
      | (have hq8 := HQ.out.later (bel_box _ (.cells #[.int .i64 z.1, .int .i64 z.2] 28))
         have hb8 := Blk.new w7 #[.int .i64 z.1, .int .i64 z.2] 28
         obtain ⟨W8, hW8⟩ : ∃ W, w7.alloc (.cells #[.int .i64 z.1, .int .i64 z.2] 28) = W := ⟨_, rfl⟩
         rw [hW8] at hq8 hb8 ⊢
         obtain ⟨b8, hb8e⟩ : ∃ b, w7.heap.size = b := ⟨_, rfl⟩
         rw [hb8e] at hb8 ⊢)
    clear hW8 hb8e s0' s1 s2 s3 s4
    obtain ⟨d0, d1, _, _⟩ := hb8.two
    obtain ⟨g0, g1, g2, g3⟩ := hq8.b3.two
    have HQ8 := Lib.hid hq8
    clear hq8 hb8
    by_cases h0 : c = 0
    · subst h0
      obtain rfl := (if_pos rfl).symm.trans HR.out
      go_wp2_with (first
        | (go_at_call 120; refine (check_ok _ _).mono ?_; rintro e w2 ⟨rfl, rfl⟩))
      have hf := HQ8.out.ps.put2 HQ8.out.m3 HQ8.out.aft (by have := HN.out; omega) (.int .i64 z.1) (.int .i64 z.2)
      refine bodyPost_ret (v := wd z) (by simp [results, Tryz.results166, go_sem, g0, g1, g2, g3]) rfl ⟨a, F', rfl, hf.1, hf.2⟩
    · obtain rfl := (if_neg h0).symm.trans HR.out
      have H0 := Lib.hid h0
      clear h0
      go_wp2_with (first
        | (go_at_call 120; refine (check_err c H0.out k _).mono ?_; rintro e w2 ⟨rfl, rfl⟩; unfold faultE))
      exact ⟨rfl, by rw [HK.out]; rfl, F', HQ8.out.ps.ht, HQ8.out.aft⟩)
end Go.Proofs.YtlibdhnlmekmhaaGreatDoor.Rd
end
