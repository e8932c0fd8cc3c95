/- A form does not depend on what stands behind it and a blank: the induction. | In a heap and a table with room enough no form is refused for want of it. -/
import Derived.Test.YtlibdhnlmekmhaaGreatDoorMg20
import Derived.Test.YtlibdhnlmekmhaaGreatDoorMg37
/- A form does not depend on what stands behind it and a blank: the induction. -/
section
namespace Go.Proofs.YtlibdhnlmekmhaaGreatDoor.Rd
open Go.RowKit
open Go.Proofs.YtlibdhnlmekmhaaGreatDoor.Hp Go.Proofs.YtlibdhnlmekmhaaGreatDoor.Add Go.Proofs.YtlibdhnlmekmhaaGreatDoor.Make Go.Proofs.YtlibdhnlmekmhaaGreatDoor.Utf Go.Proofs.YtlibdhnlmekmhaaGreatDoor.Chars
open Go.Proofs.YtlibdhnlmekmhaaGreatDoor.Nt hiding Wd

theorem split_two {v l1 r : List Int} (h1 : Lt (v ++ l1) r) (h2 : Lt r l1) : ∃ t w, t ≠ [] ∧ w ≠ [] ∧ v = t ++ w ∧ r = w ++ l1 := by
  obtain ⟨t, ht, e1⟩ := h1.split
  obtain ⟨w, hw, e2⟩ := h2.split
  refine ⟨t, w, ht, hw, ?_, e2⟩
  rw [e2, ← List.append_assoc] at e1
  exact List.append_cancel_right e1
theorem elemG_ext {F : St → Res Wd} {E : List Wd → St → Res (List Wd × Wd)} {acc : List Wd} (lF : ∀ s x s', F s = .ok x s' → Lt s.rest s'.rest) (lE : ∀ a s x s', E a s = .ok x s' → Lt s.rest s'.rest) (hF : Ext F) (hE : ∀ a, ExtA (E a)) : ExtA (elemG F E acc) := by
  intro u l1 l2 ob tb x ob' tb' h
  have hlt := elemG_lt lF (fun a s x s' h => (lE a s x s' h).1) h
  simp only at hlt
  obtain ⟨v, hv, hk⟩ := hlt.split
  have hk2 := skipF_ext u false v l1 l2 hv hk
  unfold elemG at h ⊢
  simp only [hk, hk2] at h ⊢
  rw [head_of (l1 := l1) hv l2]
  split at h
  · rename_i e
    rw [if_pos e]
    simp only [Res.ok.injEq, St.mk.injEq] at h
    obtain ⟨h1, h2, h3, h4⟩ := h
    rw [tail_of (l1 := l1) hv l1] at h2
    rw [tail_of (l1 := l1) hv l2, app_nil h2]
    simp [h1, h3, h4]
  · rename_i e
    rw [if_neg e]
    split at h
    · rename_i ed
      unfold tailG at h
      rw [tail_of (l1 := l1) hv l1] at h
      split at h
      · rename_i y s2 he
        obtain ⟨r, ob2, tb2⟩ := s2
        have hl := lF _ _ _ he
        simp only at hl h
        split at h
        · cases h
        · rename_i d r2 hk3
          split at h
          · rename_i ed2
            simp only [Res.ok.injEq, St.mk.injEq] at h
            obtain ⟨h1, rfl, h3, h4⟩ := h
            have hl2 : Lt r r2 := by
              have := skipF_suf r false
              rw [hk3] at this
              exact .of_suf this Lt.tail
            obtain ⟨t, w, ht, hw, hvt, rfl⟩ := split_two hl hl2
            have hvt2 : v.tail ≠ [] := by rw [hvt]; simp [ht]
            rw [dotB_ext (l1 := r2) hv hvt2 l2, if_pos ed]
            unfold tailG
            rw [tail_of (l1 := r2) hv l2, hvt, List.append_assoc]
            rw [hvt, List.append_assoc] at he
            rw [hF t (w ++ r2) (w ++ l2) _ _ _ _ _ (Same1.of_ne hw) he]
            simp only
            rw [skipF_ext w false [d] r2 l2 (by simp) hk3]
            simp only [List.cons_append, List.nil_append]
            rw [if_pos ed2]
            simp [h1, h3, h4]
          · cases h
      · cases h
    · rename_i ed
      split at h
      · rename_i y s2 he
        obtain ⟨r, ob2, tb2⟩ := s2
        have hl := lF _ _ _ he
        have hl2 := lE _ _ _ _ h
        simp only at hl hl2
        obtain ⟨t, w, ht, hw, hvt, rfl⟩ := split_two hl hl2
        have hvt2 : v.tail ≠ [] := by
          rw [hvt]
          cases t with
          | nil => exact absurd rfl ht
          | cons c t => simp [hw]
        rw [dotB_ext (l1 := l1) hv hvt2 l2, if_neg ed, hvt, List.append_assoc]
        rw [hvt, List.append_assoc] at he
        rw [hF t (w ++ l1) (w ++ l2) _ _ _ _ _ (Same1.of_ne hw) he]
        simp only
        exact hE _ w l1 l2 _ _ _ _ _ h
      · cases h
theorem eachG_ext {F : St → Res Wd} {V : List Wd → St → Res (List Wd)} {acc : List Wd} (lF : ∀ s x s', F s = .ok x s' → Lt s.rest s'.rest) (lV : ∀ a s x s', V a s = .ok x s' → Lt s.rest s'.rest) (hF : Ext F) (hV : ∀ a, ExtA (V a)) : ExtA (eachG F V acc) := by
  intro u l1 l2 ob tb x ob' tb' h
  have hlt := eachG_lt lF (fun a s x s' h => (lV a s x s' h).1) h
  simp only at hlt
  obtain ⟨v, hv, hk⟩ := hlt.split
  have hk2 := skipF_ext u false v l1 l2 hv hk
  unfold eachG at h ⊢
  simp only [hk, hk2] at h ⊢
  rw [head_of (l1 := l1) hv l2]
  split at h
  · rename_i e
    rw [if_pos e]
    simp only [Res.ok.injEq, St.mk.injEq] at h
    obtain ⟨h1, h2, h3, h4⟩ := h
    rw [tail_of (l1 := l1) hv l1] at h2
    rw [tail_of (l1 := l1) hv l2, app_nil h2]
    simp [h1, h3, h4]
  · rename_i e
    rw [if_neg e]
    split at h
    · rename_i y s2 he
      obtain ⟨r, ob2, tb2⟩ := s2
      have hl := lF _ _ _ he
      have hl2 := lV _ _ _ _ h
      simp only at hl hl2
      obtain ⟨t, w, ht, hw, hvt, rfl⟩ := split_two hl hl2
      rw [hvt, List.append_assoc]
      rw [hvt, List.append_assoc] at he
      rw [hF t (w ++ l1) (w ++ l2) _ _ _ _ _ (Same1.of_ne hw) he]
      simp only
      exact hV _ w l1 l2 _ _ _ _ _ h
    · cases h
theorem M_lt (lim : Nat) : ∀ k, (∀ o a s x s', elemM lim k o a s = .ok x s' → Lt s.rest s'.rest) ∧ ∀ o a s x s', eachM lim k o a s = .ok x s' → Lt s.rest s'.rest
  | 0 => ⟨fun _ _ _ _ _ h => (by cases h), fun _ _ _ _ _ h => (by cases h)⟩
  | k + 1 => by
    obtain ⟨h1, h2, h3⟩ := M_suf lim k
    refine ⟨fun o a s x s' h => ?_, fun o a s x s' h => ?_⟩
    · rw [elemM_succ] at h
      exact .of_suf (skipF_suf _ _) (elemG_lt (h1 _) (h2 _) h)
    · rw [eachM_succ] at h
      exact .of_suf (skipF_suf _ _) (eachG_lt (h1 _) (h3 _) h)
theorem M_ext (lim : Nat) : ∀ k, (∀ o, Ext (formM lim k o)) ∧ (∀ o a, ExtA (elemM lim k o a)) ∧ ∀ o a, ExtA (eachM lim k o a)
  | 0 => ⟨fun _ _ _ _ _ _ _ _ _ _ h => (by cases h), fun _ _ _ _ _ _ _ _ _ _ h => (by cases h), fun _ _ _ _ _ _ _ _ _ _ h => (by cases h)⟩
  | k + 1 => by
    obtain ⟨h1, h2, h3⟩ := M_suf lim k
    obtain ⟨g2, g3⟩ := M_lt lim k
    obtain ⟨e1, e2, e3⟩ := M_ext lim k
    refine ⟨fun o => ?_, fun o a => ?_, fun o a => ?_⟩
    · rw [formM_succ]
      exact formG_ext (h1 _) (h2 _ _) (h3 _ _) (e1 _) (e2 _ _) (e3 _ _)
    · rw [elemM_succ]
      exact elemG_ext (h1 _) (g2 _) (e1 _) (e2 _)
    · rw [eachM_succ]
      exact eachG_ext (h1 _) (g3 _) (e1 _) (e3 _)
/-- The theorem of the stage, in plain words: a form is read the same in front of a blank. -/
theorem form_behind {lim k o : Nat} {u r B : List Int} {ob ob' : Obs} {tb tb' : Tb} {x : Wd} (h : formM lim k o ⟨u ++ r, ob, tb⟩ = .ok x ⟨r, ob', tb'⟩) : formM lim k o ⟨u ++ 32 :: B, ob, tb⟩ = .ok x ⟨32 :: B, ob', tb'⟩ :=
  (M_ext lim k).1 o u r (32 :: B) ob tb x ob' tb' (.inl ⟨B, rfl⟩) h
end Go.Proofs.YtlibdhnlmekmhaaGreatDoor.Rd
end

/- In a heap and a table with room enough no form is refused for want of it. -/
section
namespace Go.Proofs.YtlibdhnlmekmhaaGreatDoor.Rd
open Go.RowKit Go.Lib
open Go.Proofs.YtlibdhnlmekmhaaGreatDoor.Hp Go.Proofs.YtlibdhnlmekmhaaGreatDoor.Add Go.Proofs.YtlibdhnlmekmhaaGreatDoor.Make Go.Proofs.YtlibdhnlmekmhaaGreatDoor.Utf Go.Proofs.YtlibdhnlmekmhaaGreatDoor.Strs
open Go.Proofs.YtlibdhnlmekmhaaGreatDoor.Nt hiding Wd

/-- Room for what is left to read. -/
structure Ro (lim : Nat) (s : St) : Prop where
  m : manyTo s.ob lim + 2 * s.rest.length ≤ lim
  u : usedTo s.ob lim + 4 * s.rest.length ≤ 1048576
  t : s.tb.syms.length + s.rest.length ≤ 16384
  n : s.rest.length ≤ 65536
/-- What was read made at most so much; a, b: how many words are held before and behind. -/
structure Lo (lim a b : Nat) (s s' : St) : Prop where
  m : manyTo s'.ob lim + 2 * s'.rest.length + b ≤ manyTo s.ob lim + 2 * s.rest.length + a
  u : usedTo s'.ob lim + 4 * s'.rest.length + b ≤ usedTo s.ob lim + 4 * s.rest.length + a
  t : s'.tb.syms.length + s'.rest.length ≤ s.tb.syms.length + s.rest.length
  n : s'.rest.length + b ≤ s.rest.length + a
  g : s.tb.syms.length ≤ s'.tb.syms.length
/-- The errors that are left. -/
abbrev Er (c : Int) : Prop := c = 4 ∨ c = 5 ∨ c = 12 ∨ c = 15
def Fine {α : Type} (lim a : Nat) (k : α → Nat) (s : St) : Res α → Prop
  | .ok x s' => Lo lim a (k x) s s'
  | .err c _ _ _ => Er c
theorem Ro.le {lim : Nat} {ob : Obs} {tb : Tb} {r r' : List Int} (h : Ro lim ⟨r, ob, tb⟩) (hl : r'.length ≤ r.length) : Ro lim ⟨r', ob, tb⟩ := by
  obtain ⟨h1, h2, h3, h4⟩ := h
  refine ⟨?_, ?_, ?_, ?_⟩ <;> simp only at * <;> omega
theorem Ro.next {lim b : Nat} {s s' : St} (h : Ro lim s) (hl : Lo lim 0 b s s') : Ro lim s' := by
  obtain ⟨h1, h2, h3, h4⟩ := h
  obtain ⟨k1, k2, k3, k4, k5⟩ := hl
  constructor <;> omega
theorem addO_room {ob : Obs} {lim : Nat} {o : Ob} (h : manyTo ob lim < lim) (hu : usedTo ob lim + o.size ≤ 1048576) :
    (addO ob lim o).2.1 = 0 ∧ manyTo (addO ob lim o).2.2 lim = manyTo ob lim + 1 ∧ usedTo (addO ob lim o).2.2 lim = usedTo ob lim + o.size := by
  have hf := (freeTo_lt_iff ob lim).2 (by omega)
  have hn := (freeTo_spec ob lim).2.2 hf
  unfold addO
  rw [if_pos ⟨hf, hu⟩]
  have h1 := manyTo_put ob lim (freeTo ob lim) (some o) hf
  have h2 := usedTo_put ob lim (freeTo ob lim) (some o) hf
  rw [hn] at h1 h2
  simp only [sizeO, Option.isSome_none, Option.isSome_some, if_true, Bool.false_eq_true, if_false] at h1 h2
  exact ⟨rfl, by omega, by omega⟩
theorem consR_room {lim : Nat} : ∀ (l : List Wd) (w : Wd) (ob : Obs), manyTo ob lim + l.length ≤ lim → usedTo ob lim ≤ 1048576 →
    (consR lim l w ob).2.1 = 0 ∧ manyTo (consR lim l w ob).2.2 lim = manyTo ob lim + l.length ∧ usedTo (consR lim l w ob).2.2 lim = usedTo ob lim
  | [], _, _, _, _ => ⟨rfl, rfl, rfl⟩
  | x :: l, w, ob, h, hu => by
    rw [List.length_cons] at h
    obtain ⟨a1, a2, a3⟩ := addO_room (ob := ob) (lim := lim) (o := .cons x w) (by omega) (by simpa [Ob.size] using hu)
    simp only [Ob.size, Nat.add_zero] at a3
    have ih := consR_room (lim := lim) l (addO ob lim (.cons x w)).1 (addO ob lim (.cons x w)).2.2 (by omega) (by omega)
    unfold consR
    rw [if_pos a1, List.length_cons]
    exact ⟨ih.1, by omega, by omega⟩
theorem intern_room {t : Tb} {s : ByteArray} (h : t.syms.length < 16384) : ((internO t s).2.1 ≠ 0 → Er (internO t s).2.1) ∧ (internO t s).2.2.syms.length ≤ t.syms.length + 1 ∧ t.syms.length ≤ (internO t s).2.2.syms.length := by
  unfold internO
  split
  · exact ⟨fun h => (h rfl).elim, by simp, by simp⟩
  · split
    · exact ⟨fun h => (h rfl).elim, by simp, by simp⟩
    · rename_i h0
      refine ⟨fun _ => ?_, by simp, by simp⟩
      unfold freshO at h0 ⊢
      split
      · show Er 5; decide
      · rename_i hv
        split
        · show Er 4; decide
        · rename_i hl
          rw [if_neg hv, if_neg hl, if_neg (by omega)] at h0
          exact (h0 rfl).elim
theorem symG_room {lim : Nat} {s : St} {acc r : List Int} (h : Ro lim s) (hr : r.length < s.rest.length) : Fine lim 0 (fun _ => 1) s (symG s acc r) := by
  obtain ⟨h1, h2, h3, h4⟩ := h
  obtain ⟨i1, i2, i3⟩ := intern_room (t := s.tb) (s := strOf (enc acc)) (by omega)
  unfold symG
  split
  · refine ⟨?_, ?_, ?_, ?_, ?_⟩ <;> simp only at * <;> omega
  · rename_i h0
    exact i1 h0
theorem intG_room {lim : Nat} {s : St} {acc r : List Int} (hr : r.length < s.rest.length) : Fine lim 0 (fun _ => 1) s (intG s acc r) := by
  unfold intG
  split
  · refine ⟨?_, ?_, ?_, ?_, ?_⟩ <;> simp only at * <;> omega
  · show Er 15
    decide
theorem tokenG_room {lim : Nat} {s : St} {c : Int} {l : List Int} (hs : s.rest = c :: l) (hc : delimB c = false) (h : Ro lim s) : Fine lim 0 (fun _ => 1) s (tokenG s) := by
  unfold tokenG
  split
  · show Er 5
    decide
  · rename_i acc pl r ht
    rw [hs] at ht
    have hl := (tokF_lt hc ht).2
    rw [← hs] at hl
    split
    · show Er 5
      decide
    · split
      · exact intG_room hl
      · exact symG_room h hl
theorem strF_len : ∀ (k : Nat) (acc l a r : List Int), strF k acc l = .ok a r → a.length + r.length + 1 ≤ acc.length + l.length
  | 0, _, _, _, _, h => by cases h
  | _ + 1, _, [], _, _, h => by cases h
  | k + 1, acc, c :: l, a, r, h => by
    unfold strF at h
    rw [List.length_cons]
    split at h
    · cases h
      omega
    · split at h
      · split at h
        · rename_i o r' he
          have hl := (escF_lt he).2
          have ih := strF_len k _ _ _ _ h
          rw [List.length_append] at ih
          have : o.toList.length ≤ 1 := by cases o <;> simp
          omega
        · cases h
      · have ih := strF_len k _ _ _ _ h
        simp only [List.length_append, List.length_singleton] at ih
        omega
theorem lenL_le (l : List UInt8) : lenL l ≤ l.length := by
  unfold lenL
  split
  · exact runes_length l
  · omega
theorem textG_room {lim : Nat} {s : St} {c : Int} {l : List Int} (hs : s.rest = c :: l) (h : Ro lim s) : Fine lim 0 (fun _ => 1) s (textG lim s) := by
  obtain ⟨h1, h2, h3, h4⟩ := h
  unfold textG
  split
  · show Er 5
    decide
  · rename_i acc r ht
    have hl := strF_len _ _ _ _ _ ht
    rw [hs] at hl h1 h2 h3 h4
    simp only [List.tail_cons, List.length_nil, List.length_cons] at hl h1 h2 h3 h4
    have h5 := lenL_le (strOf (enc acc)).data.toList
    have h6 := enc_len4 acc
    rw [strOf_list] at h5
    unfold textO
    rw [strOf_list]
    by_cases hv : validD (enc acc) = false
    · simp only [if_pos hv]
      show Er 5
      decide
    · simp only [if_neg hv]
      by_cases hb : 65536 < lenL (enc acc)
      · simp only [if_pos hb]
        show Er 4
        decide
      · simp only [if_neg hb]
        obtain ⟨a1, a2, a3⟩ := addO_room (ob := s.ob) (lim := lim) (o := .text (strOf (enc acc)) (lenL (enc acc))) (by omega) (by simp only [Ob.size]; omega)
        simp only [Ob.size] at a3
        rw [if_pos a1]
        refine ⟨?_, ?_, ?_, ?_, ?_⟩ <;> simp only [hs, List.length_cons] at * <;> omega
theorem charG_room {lim : Nat} {s : St} {c : Int} {l : List Int} (hs : s.rest = c :: l) : Fine lim 0 (fun _ => 1) s (charG s) := by
  cases hr : charG s with
  | ok x s' =>
    have hl := (charG_lt hs hr).2
    unfold charG at hr
    split at hr
    · cases hr
    · split at hr <;> cases hr
      refine ⟨?_, ?_, ?_, ?_, ?_⟩ <;> simp only at * <;> omega
  | err c m ob tb =>
    unfold charG at hr
    split at hr
    · cases hr; show Er 5; decide
    · split at hr <;> cases hr
      show Er 5
      decide
theorem consG_room {lim : Nat} {s s2 : St} {x y : Wd} (h : manyTo s2.ob lim < lim) (hu : usedTo s2.ob lim ≤ 1048576) :
    ∃ z ob', consG lim s s2 x y = .ok z ⟨s2.rest, ob', s2.tb⟩ ∧ manyTo ob' lim = manyTo s2.ob lim + 1 ∧ usedTo ob' lim = usedTo s2.ob lim := by
  obtain ⟨a1, a2, a3⟩ := addO_room (ob := s2.ob) (lim := lim) (o := .cons x y) h (by simpa [Ob.size] using hu)
  unfold consG
  rw [if_pos a1]
  exact ⟨_, _, rfl, a2, by simpa [Ob.size] using a3⟩
theorem prefG_room {lim : Nat} {F : St → Res Wd} (hF : ∀ s, Ro lim s → Fine lim 0 (fun _ => 1) s (F s)) {o len : Nat} {n : Int} {s : St} {c : Int} {l : List Int} (hs : s.rest = c :: l) (hlen : 1 ≤ len) (h : Ro lim s) : Fine lim 0 (fun _ => 1) s (prefG lim F o n len s) := by
  unfold prefG
  split
  · show Er 12
    decide
  · have hd : (s.rest.drop len).length + 1 ≤ s.rest.length := by rw [List.length_drop, hs, List.length_cons]; omega
    have hf := hF ⟨s.rest.drop len, s.ob, s.tb⟩ (h.le (by omega))
    obtain ⟨h1, h2, h3, h4⟩ := h
    cases hr : F ⟨s.rest.drop len, s.ob, s.tb⟩ with
    | err => rw [hr] at hf; exact hf
    | ok x s2 =>
      rw [hr] at hf
      obtain ⟨k1, k2, k3, k4, k5⟩ := hf
      simp only at k1 k2 k3 k4
      obtain ⟨z, ob1, e1, m1, u1⟩ := consG_room (s := s) (s2 := s2) (x := x) (y := (1, 0)) (lim := lim) (by omega) (by omega)
      simp only [e1]
      obtain ⟨z2, ob2, e2, m2, u2⟩ := consG_room (s := s) (s2 := ⟨s2.rest, ob1, s2.tb⟩) (x := (1, n)) (y := z) (lim := lim) (by simp only; omega) (by simp only; omega)
      simp only [e2]
      refine ⟨?_, ?_, ?_, ?_, ?_⟩ <;> simp only at * <;> omega
theorem listG_room {lim : Nat} {E : St → Res (List Wd × Wd)} (hE : ∀ s, Ro lim s → Fine lim 0 (fun x => x.1.length) s (E s)) {o : Nat} {s : St} {c : Int} {l : List Int} (hs : s.rest = c :: l) (h : Ro lim s) : Fine lim 0 (fun _ => 1) s (listG lim E o s) := by
  unfold listG
  split
  · show Er 12
    decide
  · have hd : s.rest.tail.length + 1 = s.rest.length := by rw [hs]; rfl
    have hf := hE ⟨s.rest.tail, s.ob, s.tb⟩ (h.le (by omega))
    obtain ⟨h1, h2, h3, h4⟩ := h
    cases hr : E ⟨s.rest.tail, s.ob, s.tb⟩ with
    | err => rw [hr] at hf; exact hf
    | ok x s2 =>
      obtain ⟨l', w⟩ := x
      rw [hr] at hf
      obtain ⟨k1, k2, k3, k4, k5⟩ := hf
      simp only at k1 k2 k3 k4
      obtain ⟨a1, a2, a3⟩ := consR_room (lim := lim) l'.reverse w s2.ob (by rw [List.length_reverse]; omega) (by omega)
      rw [List.length_reverse] at a2
      simp only [if_pos a1]
      refine ⟨?_, ?_, ?_, ?_, ?_⟩ <;> simp only at * <;> omega
theorem vecG_room {lim : Nat} {V : St → Res (List Wd)} (hV : ∀ s, Ro lim s → Fine lim 0 (fun x => x.length) s (V s)) {o : Nat} {s : St} {c : Int} {l : List Int} (hs : s.rest = c :: l) (h : Ro lim s) : Fine lim 0 (fun _ => 1) s (vecG lim V o s) := by
  unfold vecG
  split
  · show Er 12
    decide
  · have hd : s.rest.tail.length + 1 = s.rest.length := by rw [hs]; rfl
    have hf := hV ⟨s.rest.tail, s.ob, s.tb⟩ (h.le (by omega))
    obtain ⟨h1, h2, h3, h4⟩ := h
    cases hr : V ⟨s.rest.tail, s.ob, s.tb⟩ with
    | err => rw [hr] at hf; exact hf
    | ok x s2 =>
      rw [hr] at hf
      obtain ⟨k1, k2, k3, k4, k5⟩ := hf
      simp only at k1 k2 k3 k4
      obtain ⟨a1, a2, a3⟩ := addO_room (ob := s2.ob) (lim := lim) (o := .vec x) (by omega) (by simp only [Ob.size]; omega)
      simp only [Ob.size] at a3
      have e0 : vecO s2.ob lim x = addO s2.ob lim (.vec x) := by unfold vecO; rw [if_neg (by omega)]
      simp only [e0, if_pos a1]
      refine ⟨?_, ?_, ?_, ?_, ?_⟩ <;> simp only at * <;> omega
theorem Fine.skip {α : Type} {lim a : Nat} {k : α → Nat} {s : St} {r : List Int} (hr : r.length ≤ s.rest.length) {q : Res α} (h : Fine lim a k ⟨r, s.ob, s.tb⟩ q) : Fine lim a k s q := by
  cases q with
  | err => exact h
  | ok x s' =>
    obtain ⟨h1, h2, h3, h4, h5⟩ := h
    refine ⟨?_, ?_, ?_, ?_, ?_⟩ <;> simp only at * <;> omega
theorem formG_room {lim : Nat} {F : St → Res Wd} {E : St → Res (List Wd × Wd)} {V : St → Res (List Wd)} {o : Nat} {s : St} (hF : ∀ s, Ro lim s → Fine lim 0 (fun _ => 1) s (F s)) (hE : ∀ s, Ro lim s → Fine lim 0 (fun x => x.1.length) s (E s))
    (hV : ∀ s, Ro lim s → Fine lim 0 (fun x => x.length) s (V s)) (h : Ro lim s) : Fine lim 0 (fun _ => 1) s (formG lim F E V o s) := by
  unfold formG
  split
  · show Er 5
    decide
  · rename_i c r hk
    have hsuf := (skipF_suf s.rest false).length_le
    obtain ⟨n1, n2⟩ := skipF_head _ _ _ _ hk
    rw [hk] at hsuf
    refine Fine.skip hsuf ?_
    have h' := h.le (r' := c :: r) hsuf
    unfold headG
    split
    · exact listG_room hE rfl h'
    · split
      · show Er 5
        decide
      · split
        · exact vecG_room hV rfl h'
        · split
          · exact prefG_room hF rfl (Nat.le_refl _) h'
          · split
            · exact prefG_room hF rfl (Nat.le_refl _) h'
            · split
              · unfold commaG
                split
                · exact prefG_room hF rfl (by omega) h'
                · exact prefG_room hF rfl (Nat.le_refl _) h'
              · split
                · unfold hashG
                  split
                  · exact prefG_room hF rfl (by omega) h'
                  · split
                    · exact symG_room h' (by simp only [List.length_drop, List.length_cons]; omega)
                    · show Er 5
                      decide
                · split
                  · exact textG_room rfl h'
                  · split
                    · exact charG_room rfl
                    · rename_i k1 k2 k3 k4 k5 k6 k7 k8 k9
                      refine tokenG_room rfl ?_ h'
                      simp only [not_or] at k2
                      simp [delimB, n2, n1, k1, k2, k3, k4, k5, k6, k8]
theorem Lo.then {lim a b c : Nat} {s s2 s3 : St} (h : Lo lim 0 1 s s2) (h2 : Lo lim (a + 1) b s2 s3) : Lo lim a b s s3 := by
  obtain ⟨h1, h3, h4, h5, h6⟩ := h
  obtain ⟨k1, k2, k3, k4, k5⟩ := h2
  constructor <;> omega
theorem elemG_room {lim : Nat} {F : St → Res Wd} {E : List Wd → St → Res (List Wd × Wd)} {acc : List Wd} {s : St} (hF : ∀ s, Ro lim s → Fine lim 0 (fun _ => 1) s (F s)) (hE : ∀ a s, Ro lim s → Fine lim a.length (fun x => x.1.length) s (E a s)) (h : Ro lim s) :
    Fine lim acc.length (fun x => x.1.length) s (elemG F E acc s) := by
  have hsuf := (skipF_suf s.rest false).length_le
  refine Fine.skip hsuf ?_
  have h' := h.le hsuf
  generalize hk : skipF false s.rest = R at *
  have ht : R.tail.length ≤ R.length := by rw [List.length_tail]; omega
  unfold elemG
  rw [hk]
  split
  · refine ⟨?_, ?_, ?_, ?_, ?_⟩ <;> simp only at * <;> omega
  · split
    · have hf := hF ⟨R.tail, s.ob, s.tb⟩ (h'.le ht)
      unfold tailG
      cases hr : F ⟨R.tail, s.ob, s.tb⟩ with
      | err => rw [hr] at hf; exact hf
      | ok x s2 =>
        rw [hr] at hf
        obtain ⟨k1, k2, k3, k4, k5⟩ := hf
        simp only
        split
        · show Er 5
          decide
        · rename_i d r hk2
          have h3 := (skipF_suf s2.rest false).length_le
          rw [hk2, List.length_cons] at h3
          split
          · refine ⟨?_, ?_, ?_, ?_, ?_⟩ <;> simp only at * <;> omega
          · show Er 5
            decide
    · have hf := hF ⟨R, s.ob, s.tb⟩ h'
      cases hr : F ⟨R, s.ob, s.tb⟩ with
      | err => rw [hr] at hf; exact hf
      | ok x s2 =>
        rw [hr] at hf
        have h2 := hE (acc ++ [x]) s2 (h'.next hf)
        simp only
        cases hq : E (acc ++ [x]) s2 with
        | err => rw [hq] at h2; exact h2
        | ok y s3 =>
          rw [hq] at h2
          simp only [Fine, List.length_append, List.length_singleton] at h2
          exact Lo.then (c := 0) hf h2
theorem eachG_room {lim : Nat} {F : St → Res Wd} {V : List Wd → St → Res (List Wd)} {acc : List Wd} {s : St} (hF : ∀ s, Ro lim s → Fine lim 0 (fun _ => 1) s (F s)) (hV : ∀ a s, Ro lim s → Fine lim a.length (fun x => x.length) s (V a s)) (h : Ro lim s) :
    Fine lim acc.length (fun x => x.length) s (eachG F V acc s) := by
  have hsuf := (skipF_suf s.rest false).length_le
  refine Fine.skip hsuf ?_
  have h' := h.le hsuf
  generalize hk : skipF false s.rest = R at *
  have ht : R.tail.length ≤ R.length := by rw [List.length_tail]; omega
  unfold eachG
  rw [hk]
  split
  · refine ⟨?_, ?_, ?_, ?_, ?_⟩ <;> simp only at * <;> omega
  · have hf := hF ⟨R, s.ob, s.tb⟩ h'
    cases hr : F ⟨R, s.ob, s.tb⟩ with
    | err => rw [hr] at hf; exact hf
    | ok x s2 =>
      rw [hr] at hf
      have h2 := hV (acc ++ [x]) s2 (h'.next hf)
      simp only
      cases hq : V (acc ++ [x]) s2 with
      | err => rw [hq] at h2; exact h2
      | ok y s3 =>
        rw [hq] at h2
        simp only [Fine, List.length_append, List.length_singleton] at h2
        exact Lo.then (c := 0) hf h2
theorem M_room (lim : Nat) : ∀ k, (∀ o s, Ro lim s → Fine lim 0 (fun _ => 1) s (formM lim k o s)) ∧ (∀ o a s, Ro lim s → Fine lim a.length (fun x => x.1.length) s (elemM lim k o a s)) ∧ ∀ o a s, Ro lim s → Fine lim a.length (fun x => x.length) s (eachM lim k o a s)
  | 0 => ⟨fun _ _ _ => (show Er 5 by decide), fun _ _ _ _ => (show Er 5 by decide), fun _ _ _ _ => (show Er 5 by decide)⟩
  | k + 1 => by
    obtain ⟨h1, h2, h3⟩ := M_room lim k
    refine ⟨fun o s h => ?_, fun o a s h => ?_, fun o a s h => ?_⟩
    · rw [formM_succ]
      exact formG_room (h1 _) (fun s hs => h2 _ [] s hs) (fun s hs => h3 _ [] s hs) h
    · rw [elemM_succ]
      exact elemG_room (h1 _) (h2 _) h
    · rw [eachM_succ]
      exact eachG_room (h1 _) (h3 _) h
theorem form_room {lim k o : Nat} {s : St} (h : Ro lim s) : Fine lim 0 (fun _ => 1) s (formM lim k o s) := (M_room lim k).1 o s h
end Go.Proofs.YtlibdhnlmekmhaaGreatDoor.Rd
end
