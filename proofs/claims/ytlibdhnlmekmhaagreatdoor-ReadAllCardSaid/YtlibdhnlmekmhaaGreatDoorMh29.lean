/- The contracts of quote, back, comma and hash. | The contract of vector. | The contract of tail. -/
import Derived.Test.YtlibdhnlmekmhaaGreatDoorMh26
import Derived.Test.YtlibdhnlmekmhaaGreatDoorMh28
/- The contracts of quote, back, comma and hash. -/
section
namespace Go.Proofs.YtlibdhnlmekmhaaGreatDoor.Rd
set_option maxRecDepth 100000
open Go.RowKit
open Go.Proofs.YtlibdhnlmekmhaaGreatDoor.Own Go.Proofs.YtlibdhnlmekmhaaGreatDoor.Hp Go.Proofs.YtlibdhnlmekmhaaGreatDoor.Rep Go.Proofs.YtlibdhnlmekmhaaGreatDoor.Get Go.Proofs.YtlibdhnlmekmhaaGreatDoor.Add Go.Proofs.YtlibdhnlmekmhaaGreatDoor.Make Go.Proofs.YtlibdhnlmekmhaaGreatDoor.Utf Go.Proofs.YtlibdhnlmekmhaaGreatDoor.Strs

theorem nx_head {l : List Int} {c : Int} (h : c ≠ -1) : nx l = c ↔ l.head? = some c := by
  cases l with
  | nil => simp [nx]; omega
  | cons d l => simp [nx]

set_option maxHeartbeats 1000000 in
theorem PS.quote {X : Fx} {w : World} {a op : Nat} {s : St} {F : Nat → Prop} (h : PS X w a op s F) (hX : X.Ok) (hle : 1 ≤ s.rest.length)
    {G : St → Res Wd} (hG : Runs X 68 (op + 1) (s.rest.length - 1) retW G) (hnf : NF (prefG X.lim G op 2 1 s)) :
    Calls Tryz.prog 124 #[pptr X.p] w (Out X w op F retW (prefG X.lim G op 2 1 s)) := by
  have h1 := h.alloc wbox0
  have hM := h.mine (Nat.le_refl _)
  have HA1 : Hid (PAfter X w (w.alloc wbox0) F F) := .of_below (bel_box _ _)
  obtain ⟨r, hr⟩ : ∃ r, w.heap.size = r := ⟨_, rfl⟩
  have HB1 : Hid (Blk (w.alloc wbox0) r #[.int .i64 0, .int .i64 0] 28) := by
    show Blk _ _ _ _
    rw [← hr]; exact Blk.new w _ _
  rw [hr] at hM
  have HR := Lib.hid hr
  have HM := Lib.hid hM
  have HC := Lib.hid (h1.prefixed hX 2 1 (Nat.le_refl _) hle hG hnf)
  obtain ⟨Q, hQ⟩ : ∃ Q, prefG X.lim G op 2 1 s = Q := ⟨_, rfl⟩
  rw [hQ] at HC ⊢
  clear h h1 hM hr hnf hG hQ hle
  go_enter Tryz.func124, Tryz.ntmps124
  go_wp2_with fail
  rw [HR.out]
  refine HC.out.mono ?_
  intro e w3 ho
  rcases ho.tail HA1.out HM.out (Nat.le_of_eq HR.out) HB1.out with ⟨x, rfl, hB4, hO⟩ | ⟨cc, kk, rfl, hO⟩
  · obtain ⟨b0, b1, e0, e1⟩ := hB4.two
    have HO := Lib.hid hO
    clear hO hB4 ho
    go_wp2_with fail
    exact bodyPost_ret (v := wd x) (by simp [results, Tryz.results124, go_sem, b0, b1]) rfl HO.out
  · have HO := Lib.hid hO
    clear hO ho
    go_wp2_with fail
    exact ⟨rfl, HO.out⟩

set_option maxHeartbeats 1000000 in
theorem PS.back {X : Fx} {w : World} {a op : Nat} {s : St} {F : Nat → Prop} (h : PS X w a op s F) (hX : X.Ok) (hle : 1 ≤ s.rest.length)
    {G : St → Res Wd} (hG : Runs X 68 (op + 1) (s.rest.length - 1) retW G) (hnf : NF (prefG X.lim G op 4 1 s)) :
    Calls Tryz.prog 125 #[pptr X.p] w (Out X w op F retW (prefG X.lim G op 4 1 s)) := by
  have h1 := h.alloc wbox0
  have hM := h.mine (Nat.le_refl _)
  have HA1 : Hid (PAfter X w (w.alloc wbox0) F F) := .of_below (bel_box _ _)
  obtain ⟨r, hr⟩ : ∃ r, w.heap.size = r := ⟨_, rfl⟩
  have HB1 : Hid (Blk (w.alloc wbox0) r #[.int .i64 0, .int .i64 0] 28) := by
    show Blk _ _ _ _
    rw [← hr]; exact Blk.new w _ _
  rw [hr] at hM
  have HR := Lib.hid hr
  have HM := Lib.hid hM
  have HC := Lib.hid (h1.prefixed hX 4 1 (Nat.le_refl _) hle hG hnf)
  obtain ⟨Q, hQ⟩ : ∃ Q, prefG X.lim G op 4 1 s = Q := ⟨_, rfl⟩
  rw [hQ] at HC ⊢
  clear h h1 hM hr hnf hG hQ hle
  go_enter Tryz.func125, Tryz.ntmps125
  go_wp2_with fail
  rw [HR.out]
  refine HC.out.mono ?_
  intro e w3 ho
  rcases ho.tail HA1.out HM.out (Nat.le_of_eq HR.out) HB1.out with ⟨x, rfl, hB4, hO⟩ | ⟨cc, kk, rfl, hO⟩
  · obtain ⟨b0, b1, e0, e1⟩ := hB4.two
    have HO := Lib.hid hO
    clear hO hB4 ho
    go_wp2_with fail
    exact bodyPost_ret (v := wd x) (by simp [results, Tryz.results125, go_sem, b0, b1]) rfl HO.out
  · have HO := Lib.hid hO
    clear hO ho
    go_wp2_with fail
    exact ⟨rfl, HO.out⟩

set_option maxHeartbeats 1000000 in
theorem PS.comma {X : Fx} {w : World} {a op : Nat} {s : St} {F : Nat → Prop} (h : PS X w a op s F) (hX : X.Ok) (hle : 1 ≤ s.rest.length)
    {G : St → Res Wd} (hG : Runs X 68 (op + 1) (s.rest.length - 1) retW G) (hnf : NF (commaG X.lim G op s)) :
    Calls Tryz.prog 126 #[pptr X.p] w (Out X w op F retW (commaG X.lim G op s)) := by
  have h1 := h.alloc wbox0
  have hM := h.mine (Nat.le_refl _)
  have HA1 : Hid (PAfter X w (w.alloc wbox0) F F) := .of_below (bel_box _ _)
  obtain ⟨r, hr⟩ : ∃ r, w.heap.size = r := ⟨_, rfl⟩
  have HB1 : Hid (Blk (w.alloc wbox0) r #[.int .i64 0, .int .i64 0] 28) := by
    show Blk _ _ _ _
    rw [← hr]; exact Blk.new w _ _
  rw [hr] at hM
  have HR := Lib.hid hr
  have HM := Lib.hid hM
  have hl := h1.look hX 1 (by omega) ((a : Int) + 1) (by omega)
  have hn1 := nx_head (l := s.rest.drop 1) (c := 64) (by omega)
  rw [show s.rest.drop 1 = s.rest.tail by simp] at hl hn1
  obtain ⟨v, hv⟩ : ∃ v, nx s.rest.tail = v := ⟨_, rfl⟩
  rw [hv] at hl hn1
  have HL := Lib.hid hl
  have hbd : (a : Int) + 1 ≤ 2000000 := by have := h.le; have := hX.short; omega
  obtain ⟨_, _, _, c3, _, _⟩ := Blk.six h1.blk
  unfold commaG at hnf ⊢
  by_cases e : s.rest.tail.head? = some 64
  · rw [if_pos e] at hnf ⊢
    have hv1 : v = 64 := hn1.2 e
    subst hv1
    have hl2 : 2 ≤ s.rest.length := by
      cases hs : s.rest with
      | nil => rw [hs] at e; cases e
      | cons c t => cases t with
        | nil => rw [hs] at e; cases e
        | cons => simp
    have HC := Lib.hid (h1.prefixed hX 6 2 (by omega) hl2 hG hnf)
    obtain ⟨Q, hQ⟩ : ∃ Q, prefG X.lim G op 6 2 s = Q := ⟨_, rfl⟩
    rw [hQ] at HC ⊢
    clear h h1 hM hr hnf hG hQ hle hl2 e hl hn1 hv
    go_enter Tryz.func126, Tryz.ntmps126
    go_wp2_with (first
      | (go_at_call 131; refine HL.out.mono ?_; rintro e w' ⟨rfl, rfl⟩))
    rw [HR.out]
    refine HC.out.mono ?_
    intro e w3 ho
    rcases ho.tail HA1.out HM.out (Nat.le_of_eq HR.out) HB1.out with ⟨x, rfl, hB4, hO⟩ | ⟨cc, kk, rfl, hO⟩
    · obtain ⟨b0, b1, e0, e1⟩ := hB4.two
      have HO := Lib.hid hO
      clear hO hB4 ho
      go_wp2_with fail
      exact bodyPost_ret (v := wd x) (by simp [results, Tryz.results126, go_sem, b0, b1]) rfl HO.out
    · have HO := Lib.hid hO
      clear hO ho
      go_wp2_with fail
      exact ⟨rfl, HO.out⟩
  · rw [if_neg e] at hnf ⊢
    have hv1 : (v == 64) = false := by
      simp only [beq_eq_false_iff_ne]
      exact fun e2 => e (hn1.1 e2)
    have HC := Lib.hid (h1.prefixed hX 5 1 (by omega) hle hG hnf)
    obtain ⟨Q, hQ⟩ : ∃ Q, prefG X.lim G op 5 1 s = Q := ⟨_, rfl⟩
    rw [hQ] at HC ⊢
    clear h h1 hM hr hnf hG hQ hle e hl hn1 hv
    go_enter Tryz.func126, Tryz.ntmps126
    go_wp2_with (first
      | (go_at_call 131; refine HL.out.mono ?_; rintro e w' ⟨rfl, rfl⟩))
    rw [HR.out]
    refine HC.out.mono ?_
    intro e w3 ho
    rcases ho.tail HA1.out HM.out (Nat.le_of_eq HR.out) HB1.out with ⟨x, rfl, hB4, hO⟩ | ⟨cc, kk, rfl, hO⟩
    · obtain ⟨b0, b1, e0, e1⟩ := hB4.two
      have HO := Lib.hid hO
      clear hO hB4 ho
      go_wp2_with fail
      exact bodyPost_ret (v := wd x) (by simp [results, Tryz.results126, go_sem, b0, b1]) rfl HO.out
    · have HO := Lib.hid hO
      clear hO ho
      go_wp2_with fail
      exact ⟨rfl, HO.out⟩

set_option maxHeartbeats 2000000 in
theorem PS.hash {X : Fx} {w : World} {a op : Nat} {s : St} {F : Nat → Prop} (h : PS X w a op s F) (hX : X.Ok) (hle : 1 ≤ s.rest.length)
    {G : St → Res Wd} (hG : Runs X 68 (op + 1) (s.rest.length - 1) retW G) (hnf : NF (hashG X.lim G op s)) :
    Calls Tryz.prog 127 #[pptr X.p] w (Out X w op F retW (hashG X.lim G op s)) := by
  have h1 := h.alloc wbox0
  have hM := h.mine (Nat.le_refl _)
  have HA1 : Hid (PAfter X w (w.alloc wbox0) F F) := .of_below (bel_box _ _)
  obtain ⟨r, hr⟩ : ∃ r, w.heap.size = r := ⟨_, rfl⟩
  have HB1 : Hid (Blk (w.alloc wbox0) r #[.int .i64 0, .int .i64 0] 28) := by
    show Blk _ _ _ _
    rw [← hr]; exact Blk.new w _ _
  rw [hr] at hM
  have HR := Lib.hid hr
  have HM := Lib.hid hM
  have hl := h1.look hX 1 (by omega) ((a : Int) + 1) (by omega)
  have hn1 := nx_head (l := s.rest.drop 1) (c := 39) (by omega)
  have hn2 := nx_head (l := s.rest.drop 1) (c := 35) (by omega)
  rw [show s.rest.drop 1 = s.rest.tail by simp] at hl hn1 hn2
  obtain ⟨v, hv⟩ : ∃ v, nx s.rest.tail = v := ⟨_, rfl⟩
  rw [hv] at hl hn1 hn2
  have HL := Lib.hid hl
  have hbd : (a : Int) + 2 ≤ 2000000 := by have := h.le; have := hX.short; omega
  obtain ⟨_, _, _, c3, _, _⟩ := Blk.six h1.blk
  have hl2 : ∀ c, s.rest.tail.head? = some c → 2 ≤ s.rest.length := fun c e => by
    cases hs : s.rest with
    | nil => rw [hs] at e; cases e
    | cons c t => cases t with
      | nil => rw [hs] at e; cases e
      | cons => simp
  unfold hashG at hnf ⊢
  by_cases e : s.rest.tail.head? = some 39
  · rw [if_pos e] at hnf ⊢
    have hv1 : v = 39 := hn1.2 e
    subst hv1
    have HC := Lib.hid (h1.prefixed hX 3 2 (by omega) (hl2 _ e) hG hnf)
    obtain ⟨Q, hQ⟩ : ∃ Q, prefG X.lim G op 3 2 s = Q := ⟨_, rfl⟩
    rw [hQ] at HC ⊢
    clear h h1 hM hr hnf hG hQ hle hl2 e hl hn1 hn2 hv
    go_enter Tryz.func127, Tryz.ntmps127
    go_wp2_with (first
      | (go_at_call 131; refine HL.out.mono ?_; rintro e w' ⟨rfl, rfl⟩))
    rw [HR.out]
    refine HC.out.mono ?_
    intro e w3 ho
    rcases ho.tail HA1.out HM.out (Nat.le_of_eq HR.out) HB1.out with ⟨x, rfl, hB4, hO⟩ | ⟨cc, kk, rfl, hO⟩
    · obtain ⟨b0, b1, e0, e1⟩ := hB4.two
      have HO := Lib.hid hO
      clear hO hB4 ho
      go_wp2_with fail
      exact bodyPost_ret (v := wd x) (by simp [results, Tryz.results127, go_sem, b0, b1]) rfl HO.out
    · have HO := Lib.hid hO
      clear hO ho
      go_wp2_with fail
      exact ⟨rfl, HO.out⟩
  · rw [if_neg e] at hnf ⊢
    have hv1 : (v == 39) = false := by
      simp only [beq_eq_false_iff_ne]
      exact fun e2 => e (hn1.1 e2)
    have hpos := h.pos
    by_cases e2 : s.rest.tail.head? = some 35
    · have hv2 : v = 35 := hn2.2 e2
      subst hv2
      have h22 := hl2 _ e2
      have hend := h1.ends hX 2 (by omega) ((a : Int) + 2) (by omega)
      cases hex : endsB (s.rest.drop 2) with
      | true =>
        rw [if_pos ⟨e2, rfl⟩]
        rw [hex] at hend
        have HE := Lib.hid hend
        have hn := h.n
        have hm := h1.move hX (a + 2) (by omega) (.int .i64 ((a : Int) + 2)) (by simp)
        rw [show X.l.drop (a + 2) = s.rest.drop 2 by rw [← h.at_, List.drop_drop]] at hm
        have HA2 := Lib.hid (HA1.out.trans hm.2)
        have hB2 := hm.2.blk HB1.out hM.f hM.p
        have HM2 := Lib.hid (hM.later hm.2 HB1.out.lt)
        rw [symG_intern]
        have HI := Lib.hid (hm.1.intern hX (strOf (enc [])) (by rw [strOf_size]; simp [enc]) s.rest.length a hpos.symm)
        obtain ⟨Q, hQ⟩ : ∃ Q, internR ⟨s.rest.drop 2, s.ob, s.tb⟩ s.rest.length (strOf (enc [])) = Q := ⟨_, rfl⟩
        rw [hQ] at HI ⊢
        rw [show strOf (enc []) = (⟨#[]⟩ : ByteArray) by rfl] at HI
        obtain ⟨_, _, _, d3, _, _⟩ := Blk.six hm.1.blk
        have f3 := h1.blk.free 3
        have d3' : ((w.alloc wbox0).setCell ⟨X.p, 3, none⟩ (.int .i64 ((a : Int) + 2))).cell? ⟨X.p, 3, none⟩ = some (.int .i64 ((a : Int) + 2)) := by rw [d3]; simp
        have hz : (a : Int) + 2 - 2 = a := by omega
        obtain ⟨W2, hW2⟩ : ∃ W, (w.alloc wbox0).setCell ⟨X.p, 3, none⟩ (.int .i64 ((a : Int) + 2)) = W := ⟨_, rfl⟩
        rw [hW2] at HI HA2 hB2 d3'
        have HB2 := Lib.hid hB2.1
        clear h h1 hM hr hnf hG hQ hle hl2 e e2 hl hn1 hn2 hv hm hB2 h22 hend hex hpos hn d3 hX
        go_enter Tryz.func127, Tryz.ntmps127
        go_wp2_with (first
          | (go_at_call 131; refine HL.out.mono ?_; rintro e w' ⟨rfl, rfl⟩)
          | (go_at_call 169; refine HE.out.mono ?_; rintro e w' ⟨rfl, rfl⟩))
        rw [HR.out]
        refine HI.out.mono ?_
        intro e w3 ho
        rcases ho.tail HA2.out HM2.out (Nat.le_of_eq HR.out) HB2.out with ⟨x, rfl, hB4, hO⟩ | ⟨cc, kk, rfl, hO⟩
        · obtain ⟨b0, b1, e0, e1⟩ := hB4.two
          have HO := Lib.hid hO
          clear hO hB4 ho
          go_wp2_with fail
          exact bodyPost_ret (v := wd x) (by simp [results, Tryz.results127, go_sem, b0, b1]) rfl HO.out
        · have HO := Lib.hid hO
          clear hO ho
          go_wp2_with fail
          exact ⟨rfl, HO.out⟩
      | false =>
        rw [if_neg (by rw [hex]; simp)] at hnf
        rw [if_neg (by simp)]
        rw [hex] at hend
        have HE := Lib.hid hend
        have HH := Lib.hid (And.intro h1.ht HA1.out)
        have HPo := Lib.hid hpos
        clear h h1 hM hr hnf hG hle hl2 e e2 hl hn1 hn2 hv h22 hend hex hpos hX
        go_enter Tryz.func127, Tryz.ntmps127
        go_wp2_with (first
          | (go_at_call 131; refine HL.out.mono ?_; rintro e w' ⟨rfl, rfl⟩)
          | (go_at_call 169; refine HE.out.mono ?_; rintro e w' ⟨rfl, rfl⟩))
        exact ⟨rfl, by rw [HPo.out]; rfl, F, HH.out.1, HH.out.2⟩
    · have hv2 : (v == 35) = false := by
        simp only [beq_eq_false_iff_ne]
        exact fun e3 => e2 (hn2.1 e3)
      rw [if_neg (fun q => e2 q.1)]
      have HH := Lib.hid (And.intro h1.ht HA1.out)
      have HPo := Lib.hid hpos
      clear h h1 hM hr hnf hG hle hl2 e e2 hl hn1 hn2 hv hpos hX
      go_enter Tryz.func127, Tryz.ntmps127
      go_wp2_with (first
        | (go_at_call 131; refine HL.out.mono ?_; rintro e w' ⟨rfl, rfl⟩))
      exact ⟨rfl, by rw [HPo.out]; rfl, F, HH.out.1, HH.out.2⟩
end Go.Proofs.YtlibdhnlmekmhaaGreatDoor.Rd
end

/- The contract of vector. -/
section
namespace Go.Proofs.YtlibdhnlmekmhaaGreatDoor.Rd
set_option maxRecDepth 100000
open Go.RowKit
open Go.Proofs.YtlibdhnlmekmhaaGreatDoor.Own Go.Proofs.YtlibdhnlmekmhaaGreatDoor.Hp Go.Proofs.YtlibdhnlmekmhaaGreatDoor.Rep Go.Proofs.YtlibdhnlmekmhaaGreatDoor.Get Go.Proofs.YtlibdhnlmekmhaaGreatDoor.Add Go.Proofs.YtlibdhnlmekmhaaGreatDoor.Make Go.Proofs.YtlibdhnlmekmhaaGreatDoor.Utf Go.Proofs.YtlibdhnlmekmhaaGreatDoor.Strs Go.Proofs.YtlibdhnlmekmhaaGreatDoor.Clone
open Go.Proofs.YtlibdhnlmekmhaaGreatDoor.Nt hiding Wd

def vecR (lim : Nat) (s : St) : Res (List Wd) → Res Wd
  | .ok l s2 => if (vecO s2.ob lim l).2.1 = 0 then .ok (vecO s2.ob lim l).1 ⟨s2.rest, (vecO s2.ob lim l).2.2, s2.tb⟩
    else .err (vecE (vecO s2.ob lim l).2.1) s.rest.length (vecO s2.ob lim l).2.2 s2.tb
  | .err c m ob tb => .err c m ob tb
theorem vecG_eq (lim : Nat) (V : St → Res (List Wd)) (o : Nat) (s : St) (ho : o ≠ 200) : vecG lim V o s = vecR lim s (V ⟨s.rest.tail, s.ob, s.tb⟩) := by
  unfold vecG vecR
  rw [if_neg ho]
  cases V ⟨s.rest.tail, s.ob, s.tb⟩ <;> rfl
theorem vecR_nf {lim : Nat} {s : St} {R : Res (List Wd)} (h : NF (vecR lim s R)) : NF R := by
  cases R with
  | ok => trivial
  | err => exact h
/-- Between two rounds: the elements so far. -/
def VecAt (X : Fx) (w2 wr : World) (op k : Nat) (F : Nat → Prop) (R : Res (List Wd)) (u : Value) : Prop :=
  ∃ (l : List Wd) (a' : Nat) (r : List Int) (ob : Obs) (tb : Tb) (F' : Nat → Prop) (j : Nat),
    PR X w2 wr a' op ⟨r, ob, tb⟩ F F' u l ∧ skipF false r = r ∧ eachM X.lim j op l ⟨r, ob, tb⟩ = R ∧ 2 * r.length + 2 ≤ j ∧ j ≤ k ∧ l.length + r.length ≤ X.l.length
/-- Behind a skip. -/
theorem VecAt.skip {X : Fx} {w2 wr wq : World} {a op k j : Nat} {s : St} {F F1 : Nat → Prop} {R : Res (List Wd)} {u : Value} {l : List Wd} (h : PR X w2 wr a op s F F1 u l) (hR : eachM X.lim j op l s = R) (hj : 2 * s.rest.length + 2 ≤ j) (hk : j ≤ k) (hl : l.length + s.rest.length ≤ X.l.length)
    (hA : At X wr wq op s F1 (fun r => r = skipF false s.rest)) : VecAt X w2 wq op k F R u := by
  obtain ⟨a', r, hP, hA, rfl⟩ := hA
  have := (skipF_suf s.rest false).length_le
  exact ⟨l, a', skipF false s.rest, s.ob, s.tb, F1, j, h.act hP hA, skipF_skipF _ _, by rw [eachM_skip]; exact hR, by omega, hk, by omega⟩

set_option maxHeartbeats 4000000 in
theorem PS.vector {X : Fx} {w : World} {a op : Nat} {s : St} {F : Nat → Prop} (h : PS X w a op s F) (hX : X.Ok) {c0 : Int} {t : List Int} (hr : s.rest = c0 :: t)
    {k : Nat} (hk : 2 * s.rest.length ≤ k) (hF : ∀ j, j < k → FormOk X j) (hnf : NF (vecG X.lim (eachM X.lim k (op + 1) []) op s)) :
    Calls Tryz.prog 123 #[pptr X.p] w (Out X w op F retW (vecG X.lim (eachM X.lim k (op + 1) []) op s)) := by
  have h1 := h.alloc wbox0
  have hM := h.mine (Nat.le_refl _)
  have hA1 : PAfter X w (w.alloc wbox0) F F := .of_below (bel_box _ _)
  obtain ⟨r, hrr⟩ : ∃ r, w.heap.size = r := ⟨_, rfl⟩
  have hB1 : Blk (w.alloc wbox0) r #[.int .i64 0, .int .i64 0] 28 := by rw [← hrr]; exact Blk.new w _ _
  rw [hrr] at hM
  have HR := Lib.hid hrr
  by_cases ho : op = 200
  · rw [show vecG X.lim (eachM X.lim k (op + 1) []) op s = .err 12 s.rest.length s.ob s.tb from by unfold vecG; rw [if_pos ho]]
    have HO := Lib.hid (h1.openFull ho (1 : Int))
    have HH := Lib.hid (And.intro h1.ht hA1)
    clear h h1 hM hA1 hB1 ho hnf hF hrr hk hr
    go_enter Tryz.func123, Tryz.ntmps123
    go_wp2_with fail
    refine HO.out.mono ?_
    rintro e w2 ⟨rfl, rfl⟩
    unfold faultE
    go_wp2_with fail
    exact ⟨rfl, rfl, F, HH.out.1, HH.out.2⟩
  have hop := h.opl
  have hpos := h.pos
  rw [vecG_eq _ _ _ _ ho] at hnf ⊢
  have htl : s.rest.tail = t := by rw [hr]; rfl
  rw [htl] at hnf ⊢
  obtain ⟨R, hR⟩ : ∃ R, eachM X.lim k (op + 1) [] ⟨t, s.ob, s.tb⟩ = R := ⟨_, rfl⟩
  rw [hR] at hnf ⊢
  have hlen : s.rest.length = t.length + 1 := by rw [hr]; rfl
  have HO := Lib.hid (h1.open hX ho 1 (by omega))
  rw [show s.rest.drop 1 = t by rw [hr]; rfl] at HO
  have hn := h.n
  have HNF := Lib.hid (vecR_nf hnf)
  have HNF2 := Lib.hid hnf
  have HX := Lib.hid hX
  have HRe := Lib.hid hR
  have HF := Lib.hid hF
  have HK := Lib.hid (show 2 * t.length + 2 ≤ k by omega)
  have HLn := Lib.hid (show t.length ≤ X.l.length by omega)
  have HPo := Lib.hid hpos
  have HM := Lib.hid hM
  have HA1 := Lib.hid hA1
  have HB1 := Lib.hid hB1
  have HOp := Lib.hid (show op ≤ 199 by omega)
  obtain ⟨RV, hRV⟩ : ∃ RV, vecR X.lim s R = RV := ⟨_, rfl⟩
  rw [hRV]
  have HRV := Lib.hid hRV
  obtain ⟨i0, hi, hz0, hz1, hz2⟩ := info_parts word_info
  have HI := Lib.hid hi
  have HZ0 := Lib.hid hz0
  have HZ1 := Lib.hid hz1
  have HZ2 := Lib.hid hz2
  clear hi hz0 hz1 hz2
  clear h h1 hM hA1 hB1 ho hnf hF hrr hk hr hop hpos htl hR hlen hn hX hRV
  go_enter Tryz.func123, Tryz.ntmps123
  go_wp2_with fail
  rw [HR.out]
  refine HO.out.mono ?_
  rintro e w2 ⟨rfl, hP, hA⟩
  have HP2 := Lib.hid hP
  have HA2 := Lib.hid (HA1.out.trans hA)
  have hB2 := hA.blk HB1.out HM.out.f HM.out.p
  have HB2 := Lib.hid hB2.1
  have HM2 := Lib.hid (HM.out.later hA HB1.out.lt)
  clear hP hA hB2
  go_wp2_with fail
  refine (HP2.out.skip HX.out).mono ?_
  rintro e w3 ⟨rfl, hat⟩
  have HV := Lib.hid (VecAt.skip (PR.start HP2.out) HRe.out HK.out (Nat.le_refl _) (by simpa using HLn.out) hat)
  clear hat
  go_wp2_with fail
  go_loopw [4] (fun u wr => VecAt X w2 wr (op + 1) k F R u) (fun _ wr => X.l.length - atOf wr X.p)
  case atStart => exact HV.out
  case round =>
    obtain ⟨l, a1, q, ob, tb, F1, j, hPR, hsk, hj, hj2, hjk, hll⟩ := hrel
    have hs := HX.out.short
    obtain ⟨A0, cp0, rfl⟩ := hPR.len
    have HPR := Lib.hid hPR
    have HNx := Lib.hid (hPR.ps.next HX.out)
    have hn1 := nx_head (l := q) (c := 93) (by omega)
    have HSk := Lib.hid hsk
    obtain ⟨v, hv⟩ : ∃ v, nx q = v := ⟨_, rfl⟩
    dsimp only at HNx
    rw [hv] at HNx hn1
    obtain ⟨i, rfl⟩ : ∃ i, j = i + 1 := ⟨j - 1, by omega⟩
    rw [eachM_succ] at hj
    unfold eachG at hj
    simp only [hsk] at hj
    by_cases e93 : v = 93
    · subst e93
      rw [if_pos (hn1.1 rfl)] at hj
      obtain ⟨t2, rfl⟩ : ∃ t2, q = 93 :: t2 := by
        cases q with
        | nil => simp [nx] at hv
        | cons d t2 => simp [nx] at hv; exact ⟨t2, by rw [hv]⟩
      have hat := hPR.ps.at_
      dsimp only at hat
      obtain ⟨hd, hle⟩ := drop_tail hat
      have hm := hPR.ps.move HX.out (a1 + 1) hle (.int .i64 ((a1 : Int) + 1)) (by simp)
      rw [hd] at hm
      have hm2 := hm.1.nest HX.out op (by have := HOp.out; omega) (.int .i64 (((op + 1 : Nat) : Int) - 1)) (by simp)
      have hPm := (hPR.act hm.1 hm.2).act hm2.1 hm2.2
      obtain ⟨_, _, _, c3, _, _⟩ := Blk.six hPR.ps.blk
      have f3 := hPR.ps.blk.free 3
      obtain ⟨_, _, _, _, d4, _⟩ := Blk.six hm.1.blk
      have g4 := hm.1.blk.free 4
      obtain ⟨W6, hW6⟩ : ∃ W, wr.setCell ⟨X.p, 3, none⟩ (.int .i64 ((a1 : Int) + 1)) = W := ⟨_, rfl⟩
      rw [hW6] at d4 g4 hPm
      obtain ⟨W7, hW7⟩ : ∃ W, W6.setCell ⟨X.p, 4, none⟩ (.int .i64 (((op + 1 : Nat) : Int) - 1)) = W := ⟨_, rfl⟩
      rw [hW7] at hPm
      obtain ⟨e0, _, _, _, _, _⟩ := Blk.six hPm.ps.blk
      have hvec := hPm.ps.ht.vec (.slice A0 l.length cp0) l (SlR.of_own hPm.row) (by omega)
      obtain ⟨z, hz⟩ : ∃ z, (vecO ob X.lim l).1 = z := ⟨_, rfl⟩
      obtain ⟨c, hc⟩ : ∃ c, (vecO ob X.lim l).2.1 = c := ⟨_, rfl⟩
      obtain ⟨ob2, hob⟩ : ∃ o, (vecO ob X.lim l).2.2 = o := ⟨_, rfl⟩
      dsimp only at hvec
      rw [hz, hc, hob] at hvec
      have hrv : (if c = 0 then Res.ok z ⟨t2, ob2, tb⟩ else Res.err (vecE c) s.rest.length ob2 tb) = RV := by
        rw [← HRV.out, ← hj]
        simp only [vecR, hz, hc, hob, List.tail_cons]
      have hnf2 : NF RV := by rw [← HRV.out]; exact HNF2.out
      have HVc := Lib.hid hvec
      have HPm := Lib.hid hPm
      have hb1 : (1 : Int) ≤ ((op + 1 : Nat) : Int) := by omega
      have hb2 : ((op + 1 : Nat) : Int) ≤ 200 := by have := HOp.out; omega
      have hb3 : (a1 : Int) + 1 ≤ 1000000 := by omega
      obtain ⟨y, hy⟩ : ∃ y : Int, ((op + 1 : Nat) : Int) = y := ⟨_, rfl⟩
      rw [hy] at d4 hW7 hb1 hb2
      by_cases h0 : c = 0
      · subst h0
        obtain rfl := (if_pos rfl).symm.trans hrv
        clear hPR hsk hj hj2 hjk hll hs hn1 hv hat hd hle hm hm2 hPm hvec hz hc hob hrv hnf2 hy
        go_wp2_with (first
          | (go_at_call 67; refine HNx.out.mono ?_; rintro e w' ⟨rfl, rfl⟩))
        refine HVc.out.mono ?_
        rintro e w8 ⟨rfl, hok⟩
        obtain ⟨F8, hP8, hA8⟩ := HPm.out.ps.ofHT HX.out hok
        have hA9 := HPm.out.aft.trans hA8
        have hB9 := (hA9.blk HB2.out HM2.out.f HM2.out.p).1.below (bel_box w8 (.cells #[.int .i64 z.1, .int .i64 z.2] 28))
        have hB8 := Blk.new w8 #[.int .i64 z.1, .int .i64 z.2] 28
        have HP9 := Lib.hid (hP8.alloc (.cells #[.int .i64 z.1, .int .i64 z.2] 28))
        have HA9 := Lib.hid ((HA2.out.trans hA9).then_below (bel_box w8 (.cells #[.int .i64 z.1, .int .i64 z.2] 28)))
        have HM9 := Lib.hid (HM2.out.later hA9 HB2.out.lt)
        obtain ⟨b0, b1, _, _⟩ := hB8.two
        obtain ⟨g0, g1, g2, g3⟩ := hB9.two
        clear hok hP8 hA8 hA9 hB9 hB8
        go_wp2_with (first
          | (go_at_call 120; refine (check_ok _ _).mono ?_; rintro e w9 ⟨rfl, rfl⟩))
        have hf := HP9.out.put2 HM9.out HA9.out (Nat.le_of_eq HR.out) (.int .i64 z.1) (.int .i64 z.2)
        refine bodyPost_ret (v := wd z) (by simp [results, Tryz.results123, go_sem, g0, g1, g2, g3]) rfl ⟨_, F8, rfl, hf.1, hf.2⟩
      · obtain rfl := (if_neg h0).symm.trans hrv
        have hc7 : c ≠ 7 := fun e => hnf2 (by rw [e]; rfl)
        have hc4 : c ≠ 4 := fun e => hnf2 (by rw [e]; rfl)
        have n4 : (c == 4) = false := by simpa using hc4
        have hve : vecE c = c := by unfold vecE; rw [if_neg hc4]
        have HVe := Lib.hid hve
        have H0 := Lib.hid h0
        have HA1' := Lib.hid hPR.aft
        clear hPR hsk hj hj2 hjk hll hs hn1 hv hat hd hle hm hm2 hPm hvec hz hc hob hrv hnf2 hy h0 hc7 hc4 hve
        go_wp2_with (first
          | (go_at_call 67; refine HNx.out.mono ?_; rintro e w' ⟨rfl, rfl⟩))
        refine HVc.out.mono ?_
        rintro e w8 ⟨rfl, hok⟩
        obtain ⟨F8, hP8, hA8⟩ := HPm.out.ps.ofHT HX.out hok
        have HP9 := Lib.hid (hP8.alloc (.cells #[.int .i64 z.1, .int .i64 z.2] 28))
        have HA9 := Lib.hid ((HA2.out.trans (HPm.out.aft.trans hA8)).then_below (bel_box w8 (.cells #[.int .i64 z.1, .int .i64 z.2] 28)))
        clear hok hP8 hA8
        go_wp2_with (first
          | (go_at_call 120; refine (check_err c H0.out a _).mono ?_; rintro e w2 ⟨rfl, rfl⟩; unfold faultE))
        exact ⟨rfl, by rw [HPo.out, HVe.out]; rfl, F8, HP9.out.ht, HA9.out⟩
    · have hv1 : (v == 93) = false := by simpa using e93
      rw [if_neg (fun e => e93 (hn1.2 e))] at hj
      cases hq : formM X.lim i (op + 1) ⟨q, ob, tb⟩ with
      | err c m ob' tb' =>
        rw [hq] at hj
        dsimp only at hj
        have hRun : NF (formM X.lim i (op + 1) ⟨q, ob, tb⟩) := by
          rw [hq]
          have := HNF.out
          rw [← hj] at this
          exact this
        have HFm := Lib.hid (HF.out i (by omega) (op + 1) q.length i (Nat.le_refl _) (by omega) _ _ _ _ hPR.ps (Nat.le_refl _) hRun)
        rw [hq] at HFm
        have HJ := Lib.hid hj
        clear hPR hsk hj hj2 hjk hll hs hn1 hv e93 hq hRun
        go_wp2_with (first
          | (go_at_call 67; refine HNx.out.mono ?_; rintro e w' ⟨rfl, rfl⟩))
        refine HFm.out.mono ?_
        rintro e w5 ⟨rfl, F', hH, hA⟩
        have HH := Lib.hid (And.intro hH (HA2.out.trans (HPR.out.aft.trans hA)))
        clear hH hA
        unfold faultE
        go_wp2_with fail
        refine ⟨rfl, ?_⟩
        rw [← HRV.out, ← HJ.out]
        exact ⟨rfl, F', HH.out.1, HH.out.2⟩
      | ok x s2 =>
        rw [hq] at hj
        dsimp only at hj
        have hlt := (formM_lt hq).2
        have hRun : NF (formM X.lim i (op + 1) ⟨q, ob, tb⟩) := by rw [hq]; trivial
        have HFm := Lib.hid (HF.out i (by omega) (op + 1) q.length i (Nat.le_refl _) (by omega) _ _ _ _ hPR.ps (Nat.le_refl _) hRun)
        rw [hq] at HFm
        have HJ := Lib.hid hj
        have HLt := Lib.hid (show s2.rest.length < q.length from hlt)
        have HBn := Lib.hid (show 2 * s2.rest.length + 2 ≤ i ∧ i ≤ k ∧ (l ++ [x]).length + s2.rest.length ≤ X.l.length by
          have : s2.rest.length < q.length := hlt
          refine ⟨by omega, by omega, ?_⟩
          rw [List.length_append]
          simp
          omega)
        have HBd : Hid (l.length + 1 ≤ maxLen ∧ (l.length + 1) * 16 ≤ 140737488355328) := Lib.hid ⟨by unfold maxLen; omega, by omega⟩
        have HPa := Lib.hid hPR.ps.atIs
        have HPn := Lib.hid hPR.ps.n
        clear hPR hsk hj hj2 hjk hll hs hn1 hv e93 hq hRun hlt
        go_wp2_with (first
          | (go_at_call 67; refine HNx.out.mono ?_; rintro e w' ⟨rfl, rfl⟩))
        refine HFm.out.mono ?_
        rintro e w5 ⟨a5, F5, rfl, hP, hA⟩
        have HPR5 := Lib.hid (HPR.out.act hP hA)
        clear hP hA
        go_wp2_with (at_builtin; go_loud (refine wpList_append_place rfl (.tmp 16) (.tmp 19) 36 rfl w2.heap.size 28 i0 (.agg #[.int .i64 0, .int .i64 0]) 2 16 Tryz.underlying36 HI.out HZ0.out HZ1.out HZ2.out rfl (by decide) (.slice A0 l.length cp0) l.length (wcells l) rfl (HPR5.out.later (bel_box _ _)).row ⟨_, 0, none⟩ 1 1 [.int .i64 x.1, .int .i64 x.2] rfl rfl (new_cells _ _ _ _) (new_one _ _) HBd.out.1 HBd.out.2 (Nat.le_trans HPR5.out.aft.keeps.size (bel_box _ _).size) ?_))
        intro A6 c6 w6 hap
        have HPR6 := Lib.hid ((HPR5.out.later (bel_box _ _)).push hap)
        clear hap
        go_wp2_with fail
        refine (HPR6.out.ps.skip HX.out).mono ?_
        rintro e w7 ⟨rfl, hat⟩
        have HV7 := Lib.hid (VecAt.skip HPR6.out HJ.out HBn.out.1 HBn.out.2.1 HBn.out.2.2 hat)
        have HMe : Hid (X.l.length - atOf w7 X.p < X.l.length - atOf wr X.p) := by
          obtain ⟨a7, q7, hP7, _, rfl⟩ := hat
          have e1 := hP7.atIs
          have e2 := hP7.n
          have e3 := HPa.out
          have e4 := HPn.out
          have e5 := HLt.out
          have e6 := (skipF_suf s2.rest false).length_le
          show _ - _ < _ - _
          rw [e1, e3]
          simp at e2 e4
          omega
        clear hat
        go_wp2_with fail
        go_roundw
        case rel => exact HV7.out
        case measure => exact HMe.out
end Go.Proofs.YtlibdhnlmekmhaaGreatDoor.Rd
end

/- The contract of tail. -/
section
namespace Go.Proofs.YtlibdhnlmekmhaaGreatDoor.Rd
set_option maxRecDepth 100000
open Go.RowKit
open Go.Proofs.YtlibdhnlmekmhaaGreatDoor.Own Go.Proofs.YtlibdhnlmekmhaaGreatDoor.Hp Go.Proofs.YtlibdhnlmekmhaaGreatDoor.Rep Go.Proofs.YtlibdhnlmekmhaaGreatDoor.Get Go.Proofs.YtlibdhnlmekmhaaGreatDoor.Add Go.Proofs.YtlibdhnlmekmhaaGreatDoor.Make Go.Proofs.YtlibdhnlmekmhaaGreatDoor.Utf Go.Proofs.YtlibdhnlmekmhaaGreatDoor.Strs Go.Proofs.YtlibdhnlmekmhaaGreatDoor.Clone
open Go.Proofs.YtlibdhnlmekmhaaGreatDoor.Nt hiding Wd

def retT (acc : List Wd) (p : List Wd × Wd) (e : Ending) (_ : World) (_ : Nat → Prop) : Prop := e = .returned (wd p.2) ∧ p.1 = acc

set_option maxHeartbeats 2000000 in
theorem PS.tail {X : Fx} {w : World} {a op : Nat} {s : St} {F : Nat → Prop} (h : PS X w a op s F) (hX : X.Ok) {c0 : Int} {t : List Int} (hr : s.rest = c0 :: t) (acc : List Wd)
    {G : St → Res Wd} (hG : Runs X 68 op t.length retW G) (hnf : NF (tailG G acc ⟨t, s.ob, s.tb⟩)) :
    Calls Tryz.prog 193 #[pptr X.p] w (Out X w op F (retT acc) (tailG G acc ⟨t, s.ob, s.tb⟩)) := by
  have h1 := h.alloc wbox0
  have hM := h.mine (Nat.le_refl _)
  obtain ⟨r, hrr⟩ : ∃ r, w.heap.size = r := ⟨_, rfl⟩
  have hB1 : Blk (w.alloc wbox0) r #[.int .i64 0, .int .i64 0] 28 := by rw [← hrr]; exact Blk.new w _ _
  rw [hrr] at hM
  have HR := Lib.hid hrr
  have hat := h1.at_
  rw [hr] at hat
  obtain ⟨hd, hle⟩ := drop_tail hat
  have hm := h1.move hX (a + 1) hle (.int .i64 ((a : Int) + 1)) (by simp)
  rw [hd] at hm
  obtain ⟨_, _, _, c3, _, _⟩ := Blk.six h1.blk
  have f3 := h1.blk.free 3
  have hs := hX.short
  have hb0 : (a : Int) + 1 ≤ 1000000 := by omega
  have hB2 := hm.2.blk hB1 hM.f hM.p
  have HM2 := Lib.hid (hM.later hm.2 hB1.lt)
  obtain ⟨w2, hw2⟩ : ∃ w2, (w.alloc wbox0).setCell ⟨X.p, 3, none⟩ (.int .i64 ((a : Int) + 1)) = w2 := ⟨_, rfl⟩
  rw [hw2] at hm hB2
  have HP2 := Lib.hid hm.1
  have HA2 := Lib.hid ((PAfter.of_below (bel_box w wbox0)).trans hm.2)
  have HB2 := Lib.hid hB2.1
  have HX := Lib.hid hX
  unfold tailG at hnf ⊢
  cases hq : G ⟨t, s.ob, s.tb⟩ with
  | err c m ob tb =>
    have HG := Lib.hid (hG _ _ _ _ hm.1 (Nat.le_refl _) (by rw [hq] at hnf ⊢; exact hnf))
    rw [hq] at HG
    dsimp only
    clear h h1 hM hB1 hrr hat hr hd hle hm hB2 hs hX hnf hG hq
    go_enter Tryz.func193, Tryz.ntmps193
    go_wp2_with fail
    refine HG.out.mono ?_
    rintro e w3 ⟨rfl, F', hH, hA⟩
    have HH := Lib.hid (And.intro hH (HA2.out.trans hA))
    clear hH hA
    unfold faultE
    go_wp2_with fail
    exact ⟨rfl, rfl, F', HH.out.1, HH.out.2⟩
  | ok x s2 =>
    have HG := Lib.hid (hG _ _ _ _ hm.1 (Nat.le_refl _) (by rw [hq]; trivial))
    rw [hq] at HG
    dsimp only
    cases hsk : skipF false s2.rest with
    | nil =>
      dsimp only
      have HSk := Lib.hid hsk
      clear h h1 hM hB1 hrr hat hr hd hle hm hB2 hs hX hnf hG hq hsk
      go_enter Tryz.func193, Tryz.ntmps193
      go_wp2_with fail
      refine HG.out.mono ?_
      rintro e w3 ⟨a3, F3, rfl, hP, hA⟩
      have HP3 := Lib.hid (hP.alloc (.cells #[.int .i64 x.1, .int .i64 x.2] 28))
      have HA3 := Lib.hid ((HA2.out.trans hA).then_below (bel_box w3 (.cells #[.int .i64 x.1, .int .i64 x.2] 28)))
      clear hP hA
      go_wp2_with fail
      refine (HP3.out.skip HX.out).mono ?_
      rintro e w4 ⟨rfl, a4, q, hP, hA, rfl⟩
      rw [HSk.out] at hP
      have HT := Lib.hid (hP.takeEnd HX.out rfl)
      have HP4 := Lib.hid hP
      have HA4 := Lib.hid (HA3.out.trans hA)
      clear hP hA
      go_wp2_with fail
      refine HT.out.mono ?_
      rintro e w6 ⟨rfl, rfl⟩
      unfold faultE
      go_wp2_with fail
      exact ⟨rfl, rfl, F3, HP4.out.ht, HA4.out⟩
    | cons d q =>
      dsimp only
      have HSk := Lib.hid hsk
      by_cases e41 : d = 41
      · subst e41
        rw [if_pos rfl]
        clear h h1 hM hB1 hrr hat hr hd hle hm hB2 hs hX hnf hG hq hsk
        go_enter Tryz.func193, Tryz.ntmps193
        go_wp2_with fail
        rw [HR.out]
        refine HG.out.mono ?_
        rintro e w3 ⟨a3, F3, rfl, hP, hA⟩
        have hm3 := hP.mine (Nat.le_refl _)
        obtain ⟨b3, hb3⟩ : ∃ b, w3.heap.size = b := ⟨_, rfl⟩
        have hbb := Blk.new w3 #[.int .i64 x.1, .int .i64 x.2] 28
        obtain ⟨W3, hW3⟩ : ∃ W, w3.alloc (.cells #[.int .i64 x.1, .int .i64 x.2] 28) = W := ⟨_, rfl⟩
        have hbw : Below w3.heap.size w3 W3 := by rw [← hW3]; exact bel_box _ _
        rw [hb3] at hm3 hbb
        rw [hW3] at hbb
        have HM3 := Lib.hid hm3
        have HBb := Lib.hid hbb
        have HP3 := Lib.hid (hP.later hbw)
        have HA3 := Lib.hid (hA.then_below hbw)
        clear hP hA hm3 hbb hbw
        go_wp2_with fail
        clear hW3 hb3
        refine (HP3.out.skip HX.out).mono ?_
        rintro e w4 ⟨rfl, a4, q4, hP, hA, rfl⟩
        rw [HSk.out] at hP
        have HT := Lib.hid (hP.take HX.out rfl)
        have HA4 := Lib.hid hA
        clear hP hA
        go_wp2_with fail
        refine HT.out.mono ?_
        rintro e w5 ⟨rfl, hP, hA⟩
        have hA35 := HA4.out.trans hA
        have hA25 := HA3.out.trans hA35
        have hbb := (hA35.blk HBb.out HM3.out.f HM3.out.p).1
        have hbr := (hA25.blk HB2.out HM2.out.f HM2.out.p).1
        obtain ⟨g0, g1, _, _⟩ := hbb.two
        obtain ⟨b0, b1, b2, b3⟩ := hbr.two
        have HP5 := Lib.hid hP
        have HA5 := Lib.hid (HA2.out.trans hA25)
        have HM5 := Lib.hid (HM2.out.later hA25 HB2.out.lt)
        clear hP hA hA35 hA25 hbb hbr
        go_wp2_with fail
        have hf := HP5.out.put2 HM5.out HA5.out (Nat.le_of_eq HR.out) (.int .i64 x.1) (.int .i64 x.2)
        refine bodyPost_ret (v := wd x) (by simp [results, Tryz.results193, go_sem, b0, b1, b2, b3]) rfl ⟨_, F3, ⟨rfl, rfl⟩, hf.1, hf.2⟩
      · rw [if_neg e41]
        have n41 : (d != 41) = true := by simpa using e41
        obtain ⟨R0, hR0⟩ : ∃ R0, (Res.err 5 (q.length + 1) s2.ob s2.tb : Res (List Wd × Wd)) = R0 := ⟨_, rfl⟩
        rw [hR0]
        have HR0 := Lib.hid hR0
        clear hR0
        clear h h1 hM hB1 hrr hat hr hd hle hm hB2 hs hX hnf hG hq hsk e41
        go_enter Tryz.func193, Tryz.ntmps193
        go_wp2_with fail
        refine HG.out.mono ?_
        rintro e w3 ⟨a3, F3, rfl, hP, hA⟩
        have HP3 := Lib.hid (hP.alloc (.cells #[.int .i64 x.1, .int .i64 x.2] 28))
        have HA3 := Lib.hid ((HA2.out.trans hA).then_below (bel_box w3 (.cells #[.int .i64 x.1, .int .i64 x.2] 28)))
        clear hP hA
        go_wp2_with fail
        refine (HP3.out.skip HX.out).mono ?_
        rintro e w4 ⟨rfl, a4, q4, hP, hA, rfl⟩
        rw [HSk.out] at hP
        have HT := Lib.hid (hP.take HX.out rfl)
        have hnn := hP.n
        have hpp := hP.pos
        have HA4 := Lib.hid (HA3.out.trans hA)
        clear hP hA
        go_wp2_with fail
        refine HT.out.mono ?_
        rintro e w5 ⟨rfl, hP, hA⟩
        obtain ⟨_, _, _, c3, _, _⟩ := Blk.six hP.blk
        have hn5 := hP.n
        have hsz := HX.out.short
        obtain ⟨y, hy⟩ : ∃ y : Int, ((a4 + 1 : Nat) : Int) = y := ⟨_, rfl⟩
        have HY : Hid (y - 1 = (a4 : Int)) := by show _ - _ = _; omega
        have HPp := Lib.hid hpp
        have hy1 : 1 ≤ y := by omega
        have hy2 : y ≤ 1000001 := by omega
        rw [hy] at c3
        have HP5 := Lib.hid hP
        have HA5 := Lib.hid (HA4.out.trans hA)
        clear hP hA hy hnn hpp hn5 hsz
        go_wp2_with fail
        refine ⟨rfl, ?_⟩
        rw [← HR0.out]
        refine ⟨?_, F3, HP5.out.ht, HA5.out⟩
        have hpp := HPp.out
        simp only [List.length_cons] at hpp
        rw [HY.out, hpp]
        rfl
end Go.Proofs.YtlibdhnlmekmhaaGreatDoor.Rd
end
