/- Nested brackets and prefixes, and what Read answers. | ReadDeep: the walk of the statement. -/
import Derived.Test.YtlibdhnlmekmhaaGreatDoorMg34
import Derived.Test.YtlibdhnlmekmhaaGreatDoorMg35
import Derived.Test.YtlibdhnlmekmhaaGreatDoorMg38
/- Nested brackets and prefixes, and what Read answers. -/
section
namespace Go.Proofs.YtlibdhnlmekmhaaGreatDoor.Rd
open Go.RowKit Go.Lib
open Go.Proofs.YtlibdhnlmekmhaaGreatDoor.Hp Go.Proofs.YtlibdhnlmekmhaaGreatDoor.Add Go.Proofs.YtlibdhnlmekmhaaGreatDoor.Make Go.Proofs.YtlibdhnlmekmhaaGreatDoor.Utf Go.Proofs.YtlibdhnlmekmhaaGreatDoor.Strs
open Go.Proofs.YtlibdhnlmekmhaaGreatDoor.Nt hiding Wd

/-- What opens, what closes; by its number. -/
def preZ (k : Nat) : List Int := if k = 0 then [40] else if k = 1 then [91] else if k = 2 then [39] else if k = 3 then [44, 64] else [35, 39]
def postZ (k : Nat) : List Int := if k = 0 then [41] else if k = 1 then [93] else []
def nestZ : List Nat → List Int → List Int
  | [], r => 49 :: r
  | k :: ks, r => preZ k ++ nestZ ks (postZ k ++ r)
def frontZ (ks : List Nat) : List Int := (ks.map preZ).flatten
def backZ : List Nat → List Int
  | [] => []
  | k :: ks => backZ ks ++ postZ k
theorem nestZ_eq : ∀ (ks : List Nat) (r : List Int), nestZ ks r = frontZ ks ++ 49 :: (backZ ks ++ r)
  | [], r => rfl
  | k :: ks, r => by
    rw [nestZ, nestZ_eq ks]
    simp [frontZ, backZ]
theorem frontZ_push (ks : List Nat) (k : Nat) : frontZ (ks ++ [k]) = frontZ ks ++ preZ k := by simp [frontZ]
theorem backZ_push : ∀ (ks : List Nat) (k : Nat), backZ (ks ++ [k]) = postZ k ++ backZ ks
  | [], k => by simp [backZ]
  | a :: ks, k => by rw [List.cons_append, backZ, backZ_push ks k, backZ, List.append_assoc]
/-- The first character. -/
theorem nestZ_head (ks : List Nat) (r : List Int) : ∃ c t, nestZ ks r = c :: t ∧ (c = 40 ∨ c = 91 ∨ c = 39 ∨ c = 44 ∨ c = 35 ∨ c = 49) := by
  cases ks with
  | nil => exact ⟨49, r, rfl, by simp⟩
  | cons k ks =>
    unfold nestZ preZ
    split
    · exact ⟨40, _, rfl, by simp⟩
    · split
      · exact ⟨91, _, rfl, by simp⟩
      · split
        · exact ⟨39, _, rfl, by simp⟩
        · split
          · exact ⟨44, _, rfl, by simp⟩
          · exact ⟨35, _, rfl, by simp⟩
theorem nestZ_skip (ks : List Nat) (r : List Int) : skipF false (nestZ ks r) = nestZ ks r := by
  obtain ⟨c, t, h, hc⟩ := nestZ_head ks r
  rw [h]
  rcases hc with rfl | rfl | rfl | rfl | rfl | rfl <;> exact skipF_stop (by decide) rfl
theorem ends_post (k : Nat) {r : List Int} (h : endsB r = true) : endsB (postZ k ++ r) = true := by
  unfold postZ
  split
  · rfl
  · split
    · rfl
    · exact h
theorem elem_one {lim f o : Nat} {ks : List Nat} {r : List Int} {ob : Obs} {tb : Tb} {x : Wd} {ob' : Obs} (h : formM lim (f + 1) o ⟨nestZ ks (41 :: r), ob, tb⟩ = .ok x ⟨41 :: r, ob', tb⟩) :
    elemM lim (f + 2) o [] ⟨nestZ ks (41 :: r), ob, tb⟩ = .ok ([x], (1, 0)) ⟨r, ob', tb⟩ := by
  obtain ⟨c, t, hc, hcc⟩ := nestZ_head ks (41 :: r)
  rw [elemM_succ]
  unfold elemG
  simp only [nestZ_skip]
  rw [if_neg (by rw [hc]; simp; omega), if_neg (by simp [dotB]), h]
  simp only [List.nil_append]
  rw [elemM_succ]
  unfold elemG
  have hs : skipF false (41 :: r) = 41 :: r := skipF_stop (by decide) rfl
  simp only [hs]
  rfl
theorem each_one {lim f o : Nat} {ks : List Nat} {r : List Int} {ob : Obs} {tb : Tb} {x : Wd} {ob' : Obs} (h : formM lim (f + 1) o ⟨nestZ ks (93 :: r), ob, tb⟩ = .ok x ⟨93 :: r, ob', tb⟩) :
    eachM lim (f + 2) o [] ⟨nestZ ks (93 :: r), ob, tb⟩ = .ok [x] ⟨r, ob', tb⟩ := by
  obtain ⟨c, t, hc, hcc⟩ := nestZ_head ks (93 :: r)
  rw [eachM_succ]
  unfold eachG
  simp only [nestZ_skip]
  rw [if_neg (by rw [hc]; simp; omega), h]
  simp only [List.nil_append]
  rw [eachM_succ]
  unfold eachG
  have hs : skipF false (93 :: r) = 93 :: r := skipF_stop (by decide) rfl
  simp only [hs]
  rfl
theorem pref_ok {lim o len : Nat} {n : Int} {F : St → Res Wd} {s : St} {r : List Int} {x : Wd} {ob' : Obs} (ho : o ≠ 200) (h : F ⟨s.rest.drop len, s.ob, s.tb⟩ = .ok x ⟨r, ob', s.tb⟩) (hm : manyTo ob' lim + 2 ≤ lim) (hu : usedTo ob' lim ≤ 1048576) :
    ∃ y ob2, prefG lim F o n len s = .ok y ⟨r, ob2, s.tb⟩ ∧ manyTo ob2 lim = manyTo ob' lim + 2 ∧ usedTo ob2 lim = usedTo ob' lim := by
  obtain ⟨z, ob1, e1, m1, u1⟩ := consG_room (s := s) (s2 := ⟨r, ob', s.tb⟩) (x := x) (y := (1, 0)) (lim := lim) (by simp only; omega) hu
  obtain ⟨z2, ob2, e2, m2, u2⟩ := consG_room (s := s) (s2 := ⟨r, ob1, s.tb⟩) (x := (1, n)) (y := z) (lim := lim) (by simp only at *; omega) (by simp only at *; omega)
  refine ⟨z2, ob2, ?_, by simp only at *; omega, by simp only at *; omega⟩
  unfold prefG
  rw [if_neg ho, h]
  simp only [e1, e2]
theorem nest_ok (lim : Nat) : ∀ (ks : List Nat) (f o : Nat) (r : List Int) (ob : Obs) (tb : Tb), o + ks.length ≤ 200 → 2 * ks.length + 1 ≤ f → endsB r = true → manyTo ob lim + 2 * ks.length ≤ lim → usedTo ob lim + ks.length ≤ 1048576 →
    ∃ x ob', formM lim f o ⟨nestZ ks r, ob, tb⟩ = .ok x ⟨r, ob', tb⟩ ∧ manyTo ob' lim ≤ manyTo ob lim + 2 * ks.length ∧ usedTo ob' lim ≤ usedTo ob lim + ks.length
  | [], f, o, r, ob, tb, _, hf, hr, _, _ => by
    obtain ⟨j, rfl⟩ : ∃ j, f = j + 1 := ⟨f - 1, by simp at hf; omega⟩
    have h := form_num (lim := lim) (k := j) (o := o) (D := [49]) (r := r) (ob := ob) (tb := tb) (by decide) (by decide) hr
    refine ⟨(0, 1), ob, ?_, by simp, by simp⟩
    show formM lim (j + 1) o ⟨[49] ++ r, ob, tb⟩ = _
    rw [h]
    rfl
  | k :: ks, f, o, r, ob, tb, ho, hf, hr, hm, hu => by
    rw [List.length_cons] at ho hf hm hu ⊢
    obtain ⟨j, rfl⟩ : ∃ j, f = j + 3 := ⟨f - 3, by omega⟩
    have hsk := nestZ_skip (k :: ks) r
    by_cases k0 : k = 0
    · subst k0
      obtain ⟨x, ob1, h1, h2, h3⟩ := nest_ok lim ks (j + 1) (o + 1) (41 :: r) ob tb (by omega) (by omega) rfl (by omega) (by omega)
      have he := elem_one h1
      obtain ⟨a1, a2, a3⟩ := addO_room (ob := ob1) (lim := lim) (o := .cons x (1, 0)) (by omega) (by simp only [Ob.size]; omega)
      refine ⟨(addO ob1 lim (.cons x (1, 0))).1, (addO ob1 lim (.cons x (1, 0))).2.2, ?_, by omega, by simp only [Ob.size] at a3; omega⟩
      rw [formM_succ]
      unfold formG
      simp only [hsk]
      show headG lim _ _ _ o 40 ⟨40 :: nestZ ks (41 :: r), ob, tb⟩ = _
      unfold headG
      rw [if_pos rfl]
      unfold listG
      rw [if_neg (by omega)]
      simp only [List.tail_cons, he, List.reverse_singleton]
      unfold consR consR
      rw [if_pos a1]
      simp only [if_true]
    by_cases k1 : k = 1
    · subst k1
      obtain ⟨x, ob1, h1, h2, h3⟩ := nest_ok lim ks (j + 1) (o + 1) (93 :: r) ob tb (by omega) (by omega) rfl (by omega) (by omega)
      have he := each_one h1
      obtain ⟨a1, a2, a3⟩ := addO_room (ob := ob1) (lim := lim) (o := .vec [x]) (by omega) (by simp only [Ob.size, List.length_singleton]; omega)
      refine ⟨(addO ob1 lim (.vec [x])).1, (addO ob1 lim (.vec [x])).2.2, ?_, by omega, by simp only [Ob.size, List.length_singleton] at a3; omega⟩
      rw [formM_succ]
      unfold formG
      simp only [hsk]
      show headG lim _ _ _ o 91 ⟨91 :: nestZ ks (93 :: r), ob, tb⟩ = _
      unfold headG
      rw [if_neg (by decide), if_neg (by decide), if_pos rfl]
      unfold vecG
      rw [if_neg (by omega)]
      have e0 : vecO ob1 lim [x] = addO ob1 lim (.vec [x]) := by unfold vecO; rw [if_neg (by simp)]
      simp only [List.tail_cons, he, e0, a1, if_true]
    have hpost : postZ k = [] := by unfold postZ; rw [if_neg k0, if_neg k1]
    obtain ⟨x, ob1, h1, h2, h3⟩ := nest_ok lim ks (j + 2) (o + 1) r ob tb (by omega) (by omega) hr (by omega) (by omega)
    have hn : nestZ (k :: ks) r = preZ k ++ nestZ ks r := by rw [nestZ, hpost, List.nil_append]
    rw [formM_succ]
    unfold formG
    simp only [hsk]
    by_cases k2 : k = 2
    · have hp : preZ k = [39] := by unfold preZ; rw [if_neg k0, if_neg k1, if_pos k2]
      obtain ⟨y, ob2, e1, e2, e3⟩ := pref_ok (lim := lim) (o := o) (len := 1) (n := 2) (F := formM lim (j + 2) (o + 1)) (s := ⟨39 :: nestZ ks r, ob, tb⟩) (r := r) (x := x) (ob' := ob1) (by omega) h1 (by omega) (by omega)
      refine ⟨y, ob2, ?_, by omega, by omega⟩
      simp only [hn, hp, List.cons_append, List.nil_append]
      unfold headG
      rw [if_neg (by decide), if_neg (by decide), if_neg (by decide), if_pos rfl]
      exact e1
    by_cases k3 : k = 3
    · have hp : preZ k = [44, 64] := by unfold preZ; rw [if_neg k0, if_neg k1, if_neg k2, if_pos k3]
      obtain ⟨y, ob2, e1, e2, e3⟩ := pref_ok (lim := lim) (o := o) (len := 2) (n := 6) (F := formM lim (j + 2) (o + 1)) (s := ⟨44 :: 64 :: nestZ ks r, ob, tb⟩) (r := r) (x := x) (ob' := ob1) (by omega) h1 (by omega) (by omega)
      refine ⟨y, ob2, ?_, by omega, by omega⟩
      simp only [hn, hp, List.cons_append, List.nil_append]
      unfold headG
      rw [if_neg (by decide), if_neg (by decide), if_neg (by decide), if_neg (by decide), if_neg (by decide), if_pos rfl]
      unfold commaG
      simp only [List.tail_cons, List.head?_cons, if_true]
      exact e1
    · have hp : preZ k = [35, 39] := by unfold preZ; rw [if_neg k0, if_neg k1, if_neg k2, if_neg k3]
      obtain ⟨y, ob2, e1, e2, e3⟩ := pref_ok (lim := lim) (o := o) (len := 2) (n := 3) (F := formM lim (j + 2) (o + 1)) (s := ⟨35 :: 39 :: nestZ ks r, ob, tb⟩) (r := r) (x := x) (ob' := ob1) (by omega) h1 (by omega) (by omega)
      refine ⟨y, ob2, ?_, by omega, by omega⟩
      simp only [hn, hp, List.cons_append, List.nil_append]
      unfold headG
      rw [if_neg (by decide), if_neg (by decide), if_neg (by decide), if_neg (by decide), if_neg (by decide), if_neg (by decide), if_pos rfl]
      unfold hashG
      simp only [List.tail_cons, List.head?_cons, if_true]
      exact e1
/-- What is left where the nesting is too deep. -/
theorem nest_bad (lim : Nat) : ∀ (ks : List Nat) (f o : Nat) (r : List Int) (ob : Obs) (tb : Tb), o ≤ 200 → 200 < o + ks.length → 2 * ks.length + 1 ≤ f →
    formM lim f o ⟨nestZ ks r, ob, tb⟩ = .err 12 ((nestZ ks r).length - (frontZ (ks.take (200 - o))).length) ob tb
  | [], f, o, r, ob, tb, h1, h2, _ => by simp at h2; omega
  | k :: ks, f, o, r, ob, tb, ho, h2, hf => by
    rw [List.length_cons] at h2 hf
    obtain ⟨j, rfl⟩ : ∃ j, f = j + 3 := ⟨f - 3, by omega⟩
    have hsk := nestZ_skip (k :: ks) r
    rw [formM_succ]
    unfold formG
    simp only [hsk]
    by_cases h200 : o = 200
    · subst h200
      have hz : frontZ ((k :: ks).take (200 - 200)) = [] := rfl
      rw [hz, List.length_nil, Nat.sub_zero]
      by_cases k0 : k = 0
      · subst k0
        rfl
      by_cases k1 : k = 1
      · subst k1
        rfl
      have hpost : postZ k = [] := by unfold postZ; rw [if_neg k0, if_neg k1]
      have hn : nestZ (k :: ks) r = preZ k ++ nestZ ks r := by rw [nestZ, hpost, List.nil_append]
      by_cases k2 : k = 2
      · have hp : preZ k = [39] := by unfold preZ; rw [if_neg k0, if_neg k1, if_pos k2]
        simp only [hn, hp, List.cons_append, List.nil_append]
        rfl
      by_cases k3 : k = 3
      · have hp : preZ k = [44, 64] := by unfold preZ; rw [if_neg k0, if_neg k1, if_neg k2, if_pos k3]
        simp only [hn, hp, List.cons_append, List.nil_append]
        rfl
      · have hp : preZ k = [35, 39] := by unfold preZ; rw [if_neg k0, if_neg k1, if_neg k2, if_neg k3]
        simp only [hn, hp, List.cons_append, List.nil_append]
        rfl
    · have ht : 200 - o = (200 - (o + 1)) + 1 := by omega
      have hfr : (frontZ ((k :: ks).take (200 - o))).length = (preZ k).length + (frontZ (ks.take (200 - (o + 1)))).length := by
        rw [ht, List.take_succ_cons]
        simp [frontZ]
      have hlen : (nestZ (k :: ks) r).length = (preZ k).length + (nestZ ks (postZ k ++ r)).length := by rw [nestZ, List.length_append]
      rw [hfr, hlen, Nat.add_sub_add_left]
      by_cases k0 : k = 0
      · subst k0
        have ih := nest_bad lim ks (j + 1) (o + 1) (41 :: r) ob tb (by omega) (by omega) (by omega)
        show headG lim _ _ _ o 40 ⟨40 :: nestZ ks (41 :: r), ob, tb⟩ = _
        unfold headG
        rw [if_pos rfl]
        unfold listG
        rw [if_neg h200]
        simp only [List.tail_cons]
        obtain ⟨c, t, hc, hcc⟩ := nestZ_head ks (41 :: r)
        rw [elemM_succ]
        unfold elemG
        simp only [nestZ_skip]
        rw [if_neg (by rw [hc]; simp; omega), if_neg (by simp [dotB]), ih]
        rfl
      by_cases k1 : k = 1
      · subst k1
        have ih := nest_bad lim ks (j + 1) (o + 1) (93 :: r) ob tb (by omega) (by omega) (by omega)
        show headG lim _ _ _ o 91 ⟨91 :: nestZ ks (93 :: r), ob, tb⟩ = _
        unfold headG
        rw [if_neg (by decide), if_neg (by decide), if_pos rfl]
        unfold vecG
        rw [if_neg h200]
        simp only [List.tail_cons]
        obtain ⟨c, t, hc, hcc⟩ := nestZ_head ks (93 :: r)
        rw [eachM_succ]
        unfold eachG
        simp only [nestZ_skip]
        rw [if_neg (by rw [hc]; simp; omega), ih]
        rfl
      have hpost : postZ k = [] := by unfold postZ; rw [if_neg k0, if_neg k1]
      have hn : nestZ (k :: ks) r = preZ k ++ nestZ ks r := by rw [nestZ, hpost, List.nil_append]
      have ih := nest_bad lim ks (j + 2) (o + 1) r ob tb (by omega) (by omega) (by omega)
      rw [hpost, List.nil_append]
      by_cases k2 : k = 2
      · have hp : preZ k = [39] := by unfold preZ; rw [if_neg k0, if_neg k1, if_pos k2]
        simp only [hn, hp, List.cons_append, List.nil_append]
        unfold headG
        rw [if_neg (by decide), if_neg (by decide), if_neg (by decide), if_pos rfl]
        unfold prefG
        rw [if_neg h200]
        simp only [List.drop_succ_cons, List.drop_zero, ih]
      by_cases k3 : k = 3
      · have hp : preZ k = [44, 64] := by unfold preZ; rw [if_neg k0, if_neg k1, if_neg k2, if_pos k3]
        simp only [hn, hp, List.cons_append, List.nil_append]
        unfold headG
        rw [if_neg (by decide), if_neg (by decide), if_neg (by decide), if_neg (by decide), if_neg (by decide), if_pos rfl]
        unfold commaG
        simp only [List.tail_cons, List.head?_cons, if_true]
        unfold prefG
        rw [if_neg h200]
        simp only [List.drop_succ_cons, List.drop_zero, ih]
      · have hp : preZ k = [35, 39] := by unfold preZ; rw [if_neg k0, if_neg k1, if_neg k2, if_neg k3]
        simp only [hn, hp, List.cons_append, List.nil_append]
        unfold headG
        rw [if_neg (by decide), if_neg (by decide), if_neg (by decide), if_neg (by decide), if_neg (by decide), if_neg (by decide), if_pos rfl]
        unfold hashG
        simp only [List.tail_cons, List.head?_cons, if_true]
        unfold prefG
        rw [if_neg h200]
        simp only [List.drop_succ_cons, List.drop_zero, ih]
theorem nest_long : ∀ (ks : List Nat) (r : List Int), ks.length + 1 ≤ (nestZ ks r).length
  | [], r => by simp [nestZ]
  | k :: ks, r => by
    have := nest_long ks (postZ k ++ r)
    have hp : 1 ≤ (preZ k).length := by unfold preZ; split <;> (try split) <;> (try split) <;> (try split) <;> simp
    rw [nestZ, List.length_append, List.length_cons]
    omega
theorem read_deep (ks : List Nat) (tb : Tb) (h : ks.length ≤ 250) :
    if 200 < ks.length then readR 1200 (nestZ ks []) 0 Quick.noObs tb = ⟨(0, 0), 0, 12, ((frontZ (ks.take 200)).length : Int), Quick.noObs, tb⟩
    else ∃ x ob', readR 1200 (nestZ ks []) 0 Quick.noObs tb = ⟨x, ((nestZ ks []).length : Int), 0, 0, ob', tb⟩ := by
  have hl := nest_long ks []
  have hne : nestZ ks [] ≠ [] := by intro e; rw [e] at hl; simp at hl
  have hrd : readR 1200 (nestZ ks []) 0 Quick.noObs tb = ansF (nestZ ks []) (formM 1200 (2 * (nestZ ks []).length + 1) 0 ⟨nestZ ks [], Quick.noObs, tb⟩) := by
    unfold readR
    rw [if_neg (by simp)]
    simp only [Int.toNat_zero, List.drop_zero, nestZ_skip]
    rw [if_neg hne]
  rw [hrd]
  split
  · rename_i h2
    rw [nest_bad 1200 ks _ 0 [] Quick.noObs tb (by omega) (by omega) (by omega)]
    have hfr : (frontZ (ks.take 200)).length ≤ (nestZ ks []).length := by
      rw [nestZ_eq, List.length_append]
      have : (frontZ (ks.take 200)).length ≤ (frontZ ks).length := by
        have e : frontZ ks = frontZ (ks.take 200) ++ frontZ (ks.drop 200) := by
          conv => lhs; rw [← List.take_append_drop 200 ks]
          simp only [frontZ, List.map_append, List.flatten_append]
        rw [e, List.length_append]
        omega
      omega
    simp only [ansF, Nat.sub_zero]
    congr 1
    omega
  · have hm : manyTo Quick.noObs 1200 = 0 := (manyTo_more Quick.noObs 0 1200 (by omega) (fun _ _ => rfl)).trans rfl
    have hu : usedTo Quick.noObs 1200 = 0 := by decide +kernel
    obtain ⟨x, ob', e, _⟩ := nest_ok 1200 ks (2 * (nestZ ks []).length + 1) 0 [] Quick.noObs tb (by omega) (by omega) rfl (by omega) (by omega)
    exact ⟨x, ob', by rw [e]; simp [ansF]⟩
end Go.Proofs.YtlibdhnlmekmhaaGreatDoor.Rd
end

/- ReadDeep: the walk of the statement. -/
section
namespace Go.Proofs.YtlibdhnlmekmhaaGreatDoor.Rd
set_option maxRecDepth 100000
open Go.RowKit Go.Maps Go.Lib
open Go.Proofs.YtlibdhnlmekmhaaGreatDoor.Own Go.Proofs.YtlibdhnlmekmhaaGreatDoor.Hp Go.Proofs.YtlibdhnlmekmhaaGreatDoor.Rep Go.Proofs.YtlibdhnlmekmhaaGreatDoor.Get Go.Proofs.YtlibdhnlmekmhaaGreatDoor.Add Go.Proofs.YtlibdhnlmekmhaaGreatDoor.Make Go.Proofs.YtlibdhnlmekmhaaGreatDoor.Utf Go.Proofs.YtlibdhnlmekmhaaGreatDoor.Strs Go.Proofs.YtlibdhnlmekmhaaGreatDoor.Clone Go.Proofs.YtlibdhnlmekmhaaGreatDoor.Car Go.Proofs.YtlibdhnlmekmhaaGreatDoor.Kit
open Go.Proofs.YtlibdhnlmekmhaaGreatDoor.Nt hiding Wd

def kindsZ (l : List Int) : List Nat := l.map fun x => (Nt.pickZ x 5).toNat
/-- Where the nesting has become too deep. -/
def deepAt (ks : List Nat) (i : Nat) : Nat := if i ≤ 200 then 0 else (frontZ (ks.take 200)).length
theorem enc_ascii : ∀ (D : List Int), (∀ c ∈ D, 0 ≤ c ∧ c ≤ 127) → (enc D).length = D.length
  | [], _ => rfl
  | c :: D, h => by
    obtain ⟨h0, h1⟩ := h c (by simp)
    rw [enc_cons, enc_one h0 h1, List.length_append, enc_ascii D fun x hx => h x (List.mem_cons_of_mem _ hx)]
    simp
    omega
theorem preZ_low (k : Nat) : ∀ c ∈ preZ k, 0 ≤ c ∧ c ≤ 127 := by
  unfold preZ
  split
  · simp
  · split
    · simp
    · split
      · simp
      · split <;> simp
theorem postZ_low (k : Nat) : ∀ c ∈ postZ k, 0 ≤ c ∧ c ≤ 127 := by
  unfold postZ
  split
  · simp
  · split <;> simp
theorem frontZ_low : ∀ (ks : List Nat), ∀ c ∈ frontZ ks, 0 ≤ c ∧ c ≤ 127
  | [], c, h => by simp [frontZ] at h
  | k :: ks, c, h => by
    have h' : c ∈ preZ k ++ frontZ ks := h
    rcases List.mem_append.1 h' with h' | h'
    · exact preZ_low k c h'
    · exact frontZ_low ks c h'
theorem backZ_low : ∀ (ks : List Nat), ∀ c ∈ backZ ks, 0 ≤ c ∧ c ≤ 127
  | [], c, h => by simp [backZ] at h
  | k :: ks, c, h => by
    rw [backZ] at h
    rcases List.mem_append.1 h with h | h
    · exact backZ_low ks c h
    · exact postZ_low k c h
theorem frontZ_len : ∀ (ks : List Nat), (frontZ ks).length ≤ 2 * ks.length
  | [] => by simp [frontZ]
  | k :: ks => by
    have h : (frontZ (k :: ks)).length = (preZ k).length + (frontZ ks).length := by simp [frontZ]
    have := frontZ_len ks
    have hp : (preZ k).length ≤ 2 := by unfold preZ; split <;> (try split) <;> (try split) <;> (try split) <;> simp
    rw [h, List.length_cons]
    omega
theorem backZ_len : ∀ (ks : List Nat), (backZ ks).length ≤ ks.length
  | [] => by simp [backZ]
  | k :: ks => by
    have := backZ_len ks
    have hp : (postZ k).length ≤ 1 := by unfold postZ; split <;> (try split) <;> simp
    rw [backZ, List.length_append, List.length_cons]
    omega
theorem pre_bytes (k : Nat) (h : k < 5) : enc (preZ k) = (preZ k).map fun c => c.toNat.toUInt8 := by
  have : k = 0 ∨ k = 1 ∨ k = 2 ∨ k = 3 ∨ k = 4 := by omega
  rcases this with rfl | rfl | rfl | rfl | rfl <;> simp [preZ, enc, enc_one]
theorem pre_at (k : Nat) (h : k < 5) : [Value.string ⟨#[40]⟩, Value.string ⟨#[91]⟩, Value.string ⟨#[39]⟩, Value.string ⟨#[44, 64]⟩, Value.string ⟨#[35, 39]⟩][k]'(by simpa using h) = .string (strOf (enc (preZ k))) := by
  have hk : k = 0 ∨ k = 1 ∨ k = 2 ∨ k = 3 ∨ k = 4 := by omega
  rcases hk with rfl | rfl | rfl | rfl | rfl <;> rfl
theorem post_at (k : Nat) (h : k < 5) : [Value.string ⟨#[41]⟩, Value.string ⟨#[93]⟩, Value.string ⟨#[]⟩, Value.string ⟨#[]⟩, Value.string ⟨#[]⟩][k]'(by simpa using h) = .string (strOf (enc (postZ k))) := by
  have hk : k = 0 ∨ k = 1 ∨ k = 2 ∨ k = 3 ∨ k = 4 := by omega
  rcases hk with rfl | rfl | rfl | rfl | rfl <;> rfl
/-- The strings of the statement behind i rounds. -/
structure Dp (ks : List Nat) (i : Nat) (S B : ByteArray) : Prop where
  s : S.data.toList = enc (frontZ (ks.take i))
  b : B.data.toList = enc (backZ (ks.take i))
theorem Dp.start (ks : List Nat) : Dp ks 0 ⟨#[]⟩ ⟨#[]⟩ := ⟨rfl, rfl⟩
theorem Dp.push {ks : List Nat} {i k : Nat} {S B : ByteArray} (h : Dp ks i S B) (hk : ks[i]? = some k) {P Q : ByteArray} (hP : P.data.toList = enc (preZ k)) (hQ : Q.data.toList = enc (postZ k)) : Dp ks (i + 1) (S ++ P) (Q ++ B) := by
  have ht : ks.take (i + 1) = ks.take i ++ [k] := by rw [List.take_add_one, hk]; rfl
  refine ⟨?_, ?_⟩
  · rw [str_add, h.s, hP, ht, frontZ_push, enc_append]
  · rw [str_add, h.b, hQ, ht, backZ_push, enc_append]
theorem Dp.size {ks : List Nat} {i : Nat} {S B : ByteArray} (h : Dp ks i S B) : S.size = (frontZ (ks.take i)).length ∧ B.size = (backZ (ks.take i)).length := by
  refine ⟨?_, ?_⟩
  · rw [Lib.size_eq, h.s, enc_ascii _ (frontZ_low _)]
  · rw [Lib.size_eq, h.b, enc_ascii _ (backZ_low _)]
theorem Dp.full {ks : List Nat} {S B : ByteArray} (h : Dp ks ks.length S B) : (S ++ ⟨#[49]⟩ ++ B).data.toList = enc (nestZ ks []) := by
  have hs := h.s
  have hb := h.b
  rw [List.take_length] at hs hb
  rw [str_add, str_add, hs, hb, nestZ_eq, enc_append, enc_cons, List.append_nil, enc_one (by omega) (by omega), List.append_assoc]
  rfl
theorem nest_low (ks : List Nat) : ∀ c ∈ nestZ ks [], isC c := by
  intro c hc
  have : 0 ≤ c ∧ c ≤ 127 := by
    rw [nestZ_eq, List.append_nil] at hc
    rcases List.mem_append.1 hc with hc | hc
    · exact frontZ_low ks c hc
    · rcases List.mem_cons.1 hc with rfl | hc
      · omega
      · exact backZ_low ks c hc
  exact ⟨by omega, by omega, .inl (by omega)⟩
theorem nest_len (ks : List Nat) : (nestZ ks []).length = (frontZ ks).length + 1 + (backZ ks).length := by
  rw [nestZ_eq, List.append_nil, List.length_append, List.length_cons]
  omega
theorem deep_step {ks : List Nat} {S B : ByteArray} (h : Dp ks ks.length S B) (hl : ks.length ≤ 250) :
    if 200 < ks.length then RStep 1200 (S ++ ⟨#[49]⟩ ++ B) 0 Quick.noObs t0 (0, 0) 0 12 ((deepAt ks ks.length : Nat) : Int) Quick.noObs t0
    else ∃ x ob', RStep 1200 (S ++ ⟨#[49]⟩ ++ B) 0 Quick.noObs t0 x ((S.size : Int) + 1 + B.size) 0 0 ob' t0 := by
  have hd := read_deep ks t0 hl
  have h0 : 0 < t0.syms.length := by rw [t0_length]; omega
  have hlen := nest_len ks
  have h1 := frontZ_len ks
  have h2 := backZ_len ks
  split
  · rename_i hg
    rw [if_pos hg] at hd
    refine .enc h.full (nest_low ks) (by omega) h0 ?_ (by decide)
    unfold deepAt
    rw [if_neg (by omega)]
    exact hd
  · rename_i hg
    rw [if_neg hg] at hd
    obtain ⟨x, ob', hd⟩ := hd
    refine ⟨x, ob', .enc h.full (nest_low ks) (by omega) h0 ?_ (by decide)⟩
    rw [hd]
    obtain ⟨e1, e2⟩ := h.size
    rw [List.take_length] at e1 e2
    rw [e1, e2, hlen]
    congr 1
set_option maxHeartbeats 1000000 in
theorem deep_light (v : Value) (l : List Int) (w : World) (hv : SlR w v l.length (l.map (Value.int .i64))) (hm : l.length ≤ 9223372036854775807) (h : 250 < l.length) (hS : Sys w) :
    Calls Tryz.prog 8 #[v] w fun e w' => e = .returned (.bool true) ∧ Below w.heap.size w w' := by
  have HL := Lib.hid (lives_any w hS)
  obtain ⟨A, cap, rfl, _, _⟩ := hv
  have hg : decide ((250 : Int) < (l.length : Int)) = true := by simp; omega
  clear hS
  go_enter Tryz.func8, Tryz.ntmps8
  go_wp2_with fail
  refine HL.out.mono ?_
  rintro e w1 ⟨rfl, hb1⟩
  have HB := Lib.hid hb1
  clear hb1
  go_wp2_with fail
  go_ret
  exact ⟨rfl, HB.out⟩

set_option maxHeartbeats 8000000 in
theorem deep_walk (v : Value) (l : List Int) (w : World) (hv : SlR w v l.length (l.map (Value.int .i64))) (hm : l.length ≤ 9223372036854775807) (hS : Sys w) :
    Calls Tryz.prog 8 #[v] w fun e w' => e = .returned (.bool true) ∧ Below w.heap.size w w' := by
  by_cases hgt : 250 < l.length
  · exact deep_light v l w hv hm hgt hS
  have HL := Lib.hid (lives_any w hS)
  have HS0 := Lib.hid hS
  obtain ⟨A, cap, rfl, hcap, hcell⟩ := hv
  have HC := Lib.hid hcell
  obtain ⟨n, hn⟩ : ∃ n, l.length = n := ⟨_, rfl⟩
  have HN := Lib.hid hn
  rw [hn] at hgt ⊢
  have hg : decide ((250 : Int) < (n : Int)) = false := by simp; omega
  obtain ⟨ks, hks⟩ : ∃ ks, kindsZ l = ks := ⟨_, rfl⟩
  have HK := Lib.hid hks
  have HKn := Lib.hid (show ks.length = n by rw [← hks, ← hn]; unfold kindsZ; rw [List.length_map])
  have HG := Lib.hid (show n ≤ 250 by omega)
  obtain ⟨D, hD⟩ : ∃ D : Nat → Int, ∀ i, D i = ((deepAt ks i : Nat) : Int) := ⟨_, fun _ => rfl⟩
  have HDe := Lib.hid hD
  have HD0 := Lib.hid (show D 0 = 0 by rw [hD]; rfl)
  clear hS hcell hm hcap hn hks hgt hD
  go_enter Tryz.func8, Tryz.ntmps8
  go_wp2_with fail
  refine HL.out.mono ?_
  rintro e w1 ⟨rfl, hb1⟩
  have HB1 := Lib.hid hb1
  have HS := Lib.hid (HS0.out.below hb1)
  clear hb1
  go_wp2_with fail
  go_loopw [3, 4, 5, 6] (fun a b c d wr => ∃ (i : Nat) (S B : ByteArray), a = .string S ∧ b = .string B ∧ c = .int .i64 (D i) ∧ d = .int .i64 (i : Int) ∧ i ≤ n ∧ Hid (Dp ks i S B) ∧ Hid (Below w1.heap.size w1 wr)) (fun _ _ _ d _ => n - (intOf d).toNat)
  case atStart => exact ⟨0, ⟨#[]⟩, ⟨#[]⟩, rfl, rfl, by rw [HD0.out], rfl, Nat.zero_le _, Dp.start ks, Below.refl _ _⟩
  case round =>
    obtain ⟨i, S, B, rfl, rfl, rfl, rfl, hi, HD, HB⟩ := hrel
    by_cases hlt : i < n
    · have hltz : (i : Int) < n := by omega
      obtain ⟨g, off, rfl, q⟩ := HC.out (by rw [HN.out]; omega)
      obtain ⟨x, hx⟩ : ∃ x, l[i]? = some x := ⟨l[i]'(by rw [HN.out]; exact hlt), List.getElem?_eq_getElem _⟩
      have c0 : wr.cell? ⟨g, off + i, none⟩ = some (.int .i64 x) := by
        have h1 := q i (.int .i64 x) (by rw [List.getElem?_map, hx]; rfl)
        have hb := HB1.out.trans (HB.out.mono HB1.out.size)
        exact (hb.cell (World.block_lt_of_cell? _ _ h1)).trans h1
      have HQ := Lib.hid q
      obtain ⟨k, hk⟩ : ∃ k : Nat, Nt.pickZ x 5 = (k : Int) := by
        have := Nt.pick_range x 5 (by omega)
        exact ⟨(Nt.pickZ x 5).toNat, by omega⟩
      have hk5 : k < 5 := by have := Nt.pick_range x 5 (by omega); omega
      have HKi := Lib.hid (show ks[i]? = some k by rw [← HK.out]; unfold kindsZ; rw [List.getElem?_map, hx]; simp [hk])
      have HPk := Lib.hid (fun w => Nt.pick_any x 5 w (by omega) (by omega))
      rw [hk] at HPk
      have HIn := Lib.hid hi
      have hsz := HD.out.size
      have hf1 := frontZ_len (ks.take i)
      have hb1 := backZ_len (ks.take i)
      have htl : (ks.take i).length ≤ i := by rw [List.length_take]; omega
      have hwi : wrap64 ((i : Int) + 1) = (i : Int) + 1 := by have := HG.out; unfold wrap64; omega
      clear q hx hk hi
      have hkz : (k : Int) < 5 := by omega
      obtain ⟨P, hP⟩ : ∃ P, strOf (enc (preZ k)) = P := ⟨_, rfl⟩
      obtain ⟨Q, hQ⟩ : ∃ Q, strOf (enc (postZ k)) = Q := ⟨_, rfl⟩
      have hpa := pre_at k hk5
      have hqa := post_at k hk5
      rw [hP] at hpa
      rw [hQ] at hqa
      have hPs : P.size ≤ 100 := by
        have := enc_len4 (preZ k)
        have hp : (preZ k).length ≤ 2 := by unfold preZ; split <;> (try split) <;> (try split) <;> (try split) <;> simp
        rw [← hP, strOf_size]
        omega
      have hQs : Q.size ≤ 100 := by
        have := enc_len4 (postZ k)
        have hp : (postZ k).length ≤ 1 := by unfold postZ; split <;> (try split) <;> simp
        rw [← hQ, strOf_size]
        omega
      have hn1 : ¬ 9223372036854775807 < S.size + P.size := by have := HG.out; omega
      have hn2 : ¬ 9223372036854775807 < Q.size + B.size := by have := HG.out; omega
      have HDn := Lib.hid (HD.out.push HKi.out (P := P) (Q := Q) (by rw [← hP, strOf_list]) (by rw [← hQ, strOf_list]))
      clear hP hQ hPs hQs hsz hf1 hb1 htl
      by_cases h200 : i = 200
      · have hne : ((i : Int) == 200) = true := by simp; omega
        have HAt := Lib.hid (show (S.size : Int) = D (i + 1) by rw [HDe.out, HD.out.size.1, h200]; unfold deepAt; rw [if_neg (by omega)])
        clear h200
        go_wp2_with fail
        refine (HPk.out _).mono ?_
        rintro e w' ⟨rfl, rfl⟩
        go_wp2_with fail
        go_roundw
        case rel => exact ⟨i + 1, _, _, rfl, rfl, by rw [HAt.out], by rw [hwi]; rfl, by omega, HDn, Lib.hid ((HB.out.alloc (by have := HB.out.size; simp; omega) _).alloc (by have := HB.out.size; simp; omega) _)⟩
        case measure =>
          rw [hwi]
          show n - ((i : Int) + 1).toNat < n - (i : Int).toNat
          omega
      · have hne : ((i : Int) == 200) = false := by simp; omega
        have HAt := Lib.hid (show D i = D (i + 1) by rw [HDe.out, HDe.out]; unfold deepAt; by_cases h : i ≤ 200; rw [if_pos h, if_pos (by omega)]; rw [if_neg h, if_neg (by omega)])
        clear h200
        go_wp2_with fail
        refine (HPk.out _).mono ?_
        rintro e w' ⟨rfl, rfl⟩
        go_wp2_with fail
        go_roundw
        case rel => exact ⟨i + 1, _, _, rfl, rfl, by rw [HAt.out], by rw [hwi]; rfl, by omega, HDn, Lib.hid ((HB.out.alloc (by have := HB.out.size; simp; omega) _).alloc (by have := HB.out.size; simp; omega) _)⟩
        case measure =>
          rw [hwi]
          show n - ((i : Int) + 1).toNat < n - (i : Int).toNat
          omega
    · have hin : i = n := by omega
      subst hin
      have hltz : ¬ (i : Int) < (i : Int) := by omega
      have HKe := HKn.out
      have hd := deep_step (ks := ks) (S := S) (B := B) (by rw [HKe]; exact HD.out) (by rw [HKe]; exact HG.out)
      rw [HKe] at hd
      have HSz := Lib.hid HD.out.size
      have HSb := Lib.hid (HS.out.below HB.out)
      have hsz := HD.out.size
      have hf1 := frontZ_len (ks.take i)
      have hb1 := backZ_len (ks.take i)
      have htl : (ks.take i).length ≤ i := by rw [List.length_take]; omega
      have hn1 : ¬ 9223372036854775807 < S.size + 1 := by have := HG.out; omega
      have hn2 : ¬ 9223372036854775807 < S.size + 1 + B.size := by have := HG.out; omega
      clear hi hlt hsz hf1 hb1 htl
      by_cases h200 : 200 < i
      · rw [if_pos h200, ← HDe.out i] at hd
        have HR := Lib.hid hd
        have hc : decide ((200 : Int) < (i : Int)) = true := by simp; omega
        clear hd h200
        go_wp2_with fail
        refine (FStep.of (lim := 1200) (by omega) (by omega) _ HSb.out.tabs).mono ?_
        rintro e w2 ⟨tp, rfl, hN⟩
        have HNs := Lib.hid hN
        clear hN
        go_wp2_with fail
        refine (HR.out _ _ tp _ HSb.out HNs.out).mono ?_
        rintro e u1 ⟨rfl, hn⟩
        have hn2 := hn.two 0 0 12 (D i)
        have p1 := hn2.box (fbx (u1.heap.size + 1) 12 (D i)) (by simp)
        obtain ⟨f0, f1, _, _⟩ := p1.two
        have HX := Lib.hid (HB1.out.trans ((HB.out.trans (hn2.below.mono HB.out.size)).mono HB1.out.size))
        clear hn hn2 p1
        go_wp2_with fail
        go_ret
        exact ⟨rfl, HX.out⟩
      · rw [if_neg h200] at hd
        obtain ⟨x, ob', hd⟩ := hd
        have HR := Lib.hid hd
        have hc : decide ((200 : Int) < (i : Int)) = false := by simp; omega
        clear hd h200
        go_wp2_with fail
        refine (FStep.of (lim := 1200) (by omega) (by omega) _ HSb.out.tabs).mono ?_
        rintro e w2 ⟨tp, rfl, hN⟩
        have HNs := Lib.hid hN
        clear hN
        go_wp2_with fail
        refine (HR.out _ _ tp _ HSb.out HNs.out).mono ?_
        rintro e u1 ⟨rfl, hn⟩
        have hn2 := hn.two x.1 x.2 0 0
        have p1 := hn2.box (fbx (u1.heap.size + 1) 0 0) (by simp)
        obtain ⟨f0, f1, _, _⟩ := p1.two
        have HX := Lib.hid (HB1.out.trans ((HB.out.trans (hn2.below.mono HB.out.size)).mono HB1.out.size))
        clear hn hn2 p1
        go_wp2_with fail
        go_ret
        exact ⟨rfl, HX.out⟩
end Go.Proofs.YtlibdhnlmekmhaaGreatDoor.Rd
end
