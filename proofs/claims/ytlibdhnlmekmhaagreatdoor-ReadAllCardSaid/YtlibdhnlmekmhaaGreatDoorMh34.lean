/- The contracts of modifier, modify, characterEscape. | The contract of characterEscape. | The contract of character. -/
import Derived.Test.YtlibdhnlmekmhaaGreatDoorMh33
/- The contracts of modifier, modify, characterEscape. -/
section
namespace Go.Proofs.YtlibdhnlmekmhaaGreatDoor.Rd
set_option maxRecDepth 100000
open Go.RowKit Go.Lib
open Go.Proofs.YtlibdhnlmekmhaaGreatDoor.Own Go.Proofs.YtlibdhnlmekmhaaGreatDoor.Hp Go.Proofs.YtlibdhnlmekmhaaGreatDoor.Rep Go.Proofs.YtlibdhnlmekmhaaGreatDoor.Get Go.Proofs.YtlibdhnlmekmhaaGreatDoor.Utf Go.Proofs.YtlibdhnlmekmhaaGreatDoor.Chars

theorem modifier_any (c : Int) (w : World) : Calls Tryz.prog 201 #[.int .i64 c] w fun e w' => e = .returned (.int .i64 (modZ c)) ∧ w = w' := by
  unfold modZ
  by_cases h1 : c = 67
  · subst h1
    go_enter Tryz.func201, Tryz.ntmps201
    go_wp2
    go_ret
    exact ⟨rfl, rfl⟩
  · have n1 : (c == 67) = false := by simpa using h1
    rw [if_neg h1]
    by_cases h2 : c = 77
    · subst h2
      clear h1
      go_enter Tryz.func201, Tryz.ntmps201
      go_wp2
      go_ret
      exact ⟨rfl, rfl⟩
    · have n2 : (c == 77) = false := by simpa using h2
      rw [if_neg h2]
      by_cases h3 : c = 83
      · subst h3
        clear h1 h2
        go_enter Tryz.func201, Tryz.ntmps201
        go_wp2
        go_ret
        exact ⟨rfl, rfl⟩
      · have n3 : (c == 83) = false := by simpa using h3
        rw [if_neg h3]
        clear h1 h2 h3
        go_enter Tryz.func201, Tryz.ntmps201
        go_wp2
        go_ret
        exact ⟨rfl, rfl⟩
/-- The sums of modifiers. -/
def modL : List Int := [0, 33554432, 67108864, 100663296, 134217728, 167772160, 201326592, 234881024]
theorem mod_or : ∀ m ∈ modL, ∀ b ∈ [(33554432 : Int), 67108864, 134217728], bits .or .i64 m b ∈ modL := by decide +kernel
theorem modZ_in (c : Int) (h : modZ c ≠ 0) : modZ c ∈ [(33554432 : Int), 67108864, 134217728] := by
  unfold modZ at h ⊢
  split
  · simp
  · split
    · simp
    · split
      · simp
      · rename_i h1 h2 h3
        rw [if_neg h1, if_neg h2, if_neg h3] at h
        exact absurd rfl h
theorem mod_le : ∀ m ∈ modL, 0 ≤ m ∧ m ≤ 234881024 ∧ 0 ≤ bits .andNot .i64 m 67108864 ∧ bits .andNot .i64 m 67108864 ≤ 234881024 := by decide +kernel
theorem modify_any (c m : Int) (h0 : 0 ≤ c) (h1 : c ≤ 1114111) (hm : m ∈ modL) (w : World) :
    Calls Tryz.prog 177 #[.int .i64 c, .int .i64 m] w fun e w' => e = .returned (.int .i64 (modifyZ c m)) ∧ w = w' := by
  obtain ⟨m0, m1, a0, a1⟩ := mod_le m hm
  unfold modifyZ
  obtain ⟨A, hA⟩ : ∃ A, bits .and .i64 m 67108864 = A := ⟨_, rfl⟩
  obtain ⟨B, hB⟩ : ∃ B, bits .andNot .i64 m 67108864 = B := ⟨_, rfl⟩
  rw [hB] at a0 a1
  rw [hA, hB]
  by_cases hz : A = 0
  · rw [if_pos hz]
    subst hz
    clear hm
    go_enter Tryz.func177, Tryz.ntmps177
    go_wp2
    go_ret
    exact ⟨rfl, rfl⟩
  · rw [if_neg hz]
    have nz : (A == 0) = false := by simpa using hz
    clear hm hz
    by_cases hl : (97 ≤ c ∧ c ≤ 122) ∨ (64 ≤ c ∧ c ≤ 95)
    · rw [if_pos hl]
      rcases hl with ⟨l0, l1⟩ | ⟨l0, l1⟩
      · go_enter Tryz.func177, Tryz.ntmps177
        go_wp2
        go_ret
        exact ⟨rfl, rfl⟩
      · have l2 : ¬ 97 ≤ c := by omega
        go_enter Tryz.func177, Tryz.ntmps177
        go_wp2
        go_ret
        exact ⟨rfl, rfl⟩
    · rw [if_neg hl]
      by_cases hq : c = 63
      · rw [if_pos hq]
        subst hq
        clear hl
        go_enter Tryz.func177, Tryz.ntmps177
        go_wp2
        go_ret
        exact ⟨rfl, rfl⟩
      · rw [if_neg hq]
        have nq : (c == 63) = false := by simpa using hq
        have hc : c < 64 ∨ (95 < c ∧ c < 97) ∨ 122 < c := by omega
        clear hl hq
        rcases hc with hc | ⟨hc, hc2⟩ | hc
        · have l1 : ¬ 97 ≤ c := by omega
          have l2 : ¬ 64 ≤ c := by omega
          go_enter Tryz.func177, Tryz.ntmps177
          go_wp2
          go_ret
          exact ⟨rfl, rfl⟩
        · have l1 : ¬ 97 ≤ c := by omega
          have l2 : 64 ≤ c := by omega
          have l3 : ¬ c ≤ 95 := by omega
          go_enter Tryz.func177, Tryz.ntmps177
          go_wp2
          go_ret
          exact ⟨rfl, rfl⟩
        · have l1 : 97 ≤ c := by omega
          have l2 : ¬ c ≤ 122 := by omega
          have l3 : 64 ≤ c := by omega
          have l4 : ¬ c ≤ 95 := by omega
          go_enter Tryz.func177, Tryz.ntmps177
          go_wp2
          go_ret
          exact ⟨rfl, rfl⟩
end Go.Proofs.YtlibdhnlmekmhaaGreatDoor.Rd
end

/- The contract of characterEscape. -/
section
namespace Go.Proofs.YtlibdhnlmekmhaaGreatDoor.Rd
set_option maxRecDepth 100000
open Go.RowKit Go.Lib
open Go.Proofs.YtlibdhnlmekmhaaGreatDoor.Own Go.Proofs.YtlibdhnlmekmhaaGreatDoor.Hp Go.Proofs.YtlibdhnlmekmhaaGreatDoor.Rep Go.Proofs.YtlibdhnlmekmhaaGreatDoor.Get Go.Proofs.YtlibdhnlmekmhaaGreatDoor.Utf Go.Proofs.YtlibdhnlmekmhaaGreatDoor.Chars

/-- A parser and a box of modifiers beside it. -/
structure ChSt (X : Fx) (w1 W : World) (a op : Nat) (s : St) (F : Nat → Prop) (bm : Nat) (m : Int) : Prop where
  ps : PS X W a op s F
  aft : PAfter X w1 W F F
  box : Blk W bm #[.int .i64 m] 3
  mine : Mine X w1 F bm
  low : w1.heap.size ≤ bm
theorem ChSt.act {X : Fx} {w1 W W' : World} {a a' op bm : Nat} {s s' : St} {F : Nat → Prop} {m : Int} (h : ChSt X w1 W a op s F bm m) (hP : PS X W' a' op s' F) (hA : PAfter X W W' F F) : ChSt X w1 W' a' op s' F bm m :=
  ⟨hP, h.aft.trans hA, (hA.blk h.box h.mine.f h.mine.p).1, h.mine, h.low⟩
theorem ChSt.later {X : Fx} {w1 W W' : World} {a op bm : Nat} {s : St} {F : Nat → Prop} {m : Int} (h : ChSt X w1 W a op s F bm m) (hb : Below W.heap.size W W') : ChSt X w1 W' a op s F bm m := h.act (h.ps.later hb) (.of_below hb)
theorem ChSt.set {X : Fx} {w1 W : World} {a op bm : Nat} {s : St} {F : Nat → Prop} {m : Int} (h : ChSt X w1 W a op s F bm m) (m' : Int) : ChSt X w1 (W.setCell ⟨bm, 0, none⟩ (.int .i64 m')) a op s F bm m' := by
  have hk := keeps_set W bm 0 (.int .i64 m')
  exact ⟨h.ps.write hk h.mine.f h.mine.p h.mine.g h.mine.m h.mine.low, ⟨h.aft.keeps.then hk fun k hlt e => by have := h.low; omega, h.aft.grow⟩, by simpa using h.box.set 0 (.int .i64 m'), h.mine, h.low⟩
/-- How characterEscape ends. -/
def CE (X : Fx) (w1 : World) (op : Nat) (s : St) (F : Nat → Prop) (bm : Nat) (m : Int) (R : Sc (Int ⊕ Int)) (e : Ending) (w' : World) : Prop :=
  match R with
  | .ok (.inl x) r => e = .returned (.int .i64 x) ∧ ∃ a', ChSt X w1 w' a' op ⟨r, s.ob, s.tb⟩ F bm m
  | .ok (.inr b) r => e = .returned (.int .i64 (-1)) ∧ ∃ a', ChSt X w1 w' a' op ⟨r, s.ob, s.tb⟩ F bm (bits .or .i64 m b)
  | .bad k => e = faultE 5 (X.l.length - k) ∧ HT w' X.base X.hp X.lim X.tp s.ob s.tb F ∧ PAfter X w1 w' F F

set_option maxHeartbeats 2000000 in
theorem ChSt.escape {X : Fx} {w1 w : World} {a op bm : Nat} {s : St} {F : Nat → Prop} {m : Int} (h : ChSt X w1 w a op s F bm m) (hX : X.Ok) (ha : 1 ≤ a) :
    Calls Tryz.prog 176 #[pptr X.p, .pointer (some ⟨bm, 0, none⟩)] w (CE X w1 op s F bm m (cescF s.rest)) := by
  have HX := Lib.hid hX
  have HH := Lib.hid h
  obtain ⟨_, _, _, c3, _, _⟩ := Blk.six h.ps.blk
  obtain ⟨b, rfl⟩ : ∃ b, a = b + 1 := ⟨a - 1, by omega⟩
  have hsub : ((b + 1 : Nat) : Int) - 1 = (b : Int) := by omega
  have hn := h.ps.n
  have hs := hX.short
  have hb0 : (b : Int) + 1 ≤ 1000000 := by omega
  cases hr : s.rest with
  | nil =>
    have HT := Lib.hid (h.ps.takeEnd hX hr)
    clear h hr hX hn hs
    go_enter Tryz.func176, Tryz.ntmps176
    go_wp2_with fail
    refine HT.out.mono ?_
    rintro e w2 ⟨rfl, rfl⟩
    unfold faultE
    go_wp2_with fail
    exact ⟨rfl, rfl, HH.out.ps.ht, HH.out.aft⟩
  | cons d r =>
    have HT := Lib.hid (h.ps.take hX hr)
    rw [hr] at hn
    have HPos : Hid (b = X.l.length - (r.length + 2)) := by
      show _ = _
      simp at hn
      omega
    have hdC : isC d := hX.chars d (List.mem_of_mem_drop (by rw [h.ps.at_, hr]; simp))
    have hrC : ∀ x ∈ r, isC x := fun x hx => hX.chars x (List.mem_of_mem_drop (by rw [h.ps.at_, hr]; exact List.mem_cons_of_mem _ hx))
    have hmd := modifier_any d
    rw [cescF]
    by_cases hm0 : modZ d ≠ 0
    · rw [if_pos hm0]
      obtain ⟨q, hq⟩ : ∃ q, modZ d = q := ⟨_, rfl⟩
      rw [hq] at hm0 hmd ⊢
      have n0 : (q != 0) = true := by simpa using hm0
      have HMd := Lib.hid hmd
      cases r with
      | nil =>
        have HTE := Lib.hid (fun W (hW : PS X W (b + 1 + 1) op ⟨[], s.ob, s.tb⟩ F) => hW.takeEnd HX.out rfl)
        clear h hr hX hn hs hdC hrC hmd hm0 hq
        go_enter Tryz.func176, Tryz.ntmps176
        go_wp2_with fail
        refine HT.out.mono ?_
        rintro e w2 ⟨rfl, hP, hA⟩
        have HP := Lib.hid (HH.out.act hP hA)
        clear hP hA c3
        go_wp2_with fail
        refine (HMd.out _).mono ?_
        rintro e w3 ⟨rfl, rfl⟩
        go_wp2_with fail
        refine (HTE.out _ HP.out.ps).mono ?_
        rintro e w3 ⟨rfl, rfl⟩
        unfold faultE
        go_wp2_with fail
        exact ⟨rfl, rfl, HP.out.ps.ht, HP.out.aft⟩
      | cons x r =>
        have HTk := Lib.hid (fun W (hW : PS X W (b + 1 + 1) op ⟨x :: r, s.ob, s.tb⟩ F) => hW.take HX.out rfl)
        rw [minusF]
        by_cases h45 : x = 45
        · rw [if_pos h45]
          subst h45
          clear h hr hX hn hs hdC hrC hmd hm0 hq
          go_enter Tryz.func176, Tryz.ntmps176
          go_wp2_with fail
          refine HT.out.mono ?_
          rintro e w2 ⟨rfl, hP, hA⟩
          have HP := Lib.hid (HH.out.act hP hA)
          clear hP hA c3
          go_wp2_with fail
          refine (HMd.out _).mono ?_
          rintro e w3 ⟨rfl, rfl⟩
          go_wp2_with fail
          refine (HTk.out _ HP.out.ps).mono ?_
          rintro e w4 ⟨rfl, hP4, hA4⟩
          have hq4 := HP.out.act hP4 hA4
          have m0 := hq4.box.cell 0 _ rfl
          have f0 := hq4.box.free 0
          have HP4 := Lib.hid hq4
          clear hP4 hA4 hq4
          have m0' : w4.cell? ⟨bm, 0, none⟩ = some (.int .i64 m) := m0
          clear m0
          go_wp2_with fail
          go_ret
          exact ⟨rfl, _, HP4.out.set _⟩
        · rw [if_neg h45]
          have n45 : (x != 45) = true := by simpa using h45
          clear h hr hX hn hs hdC hrC hmd hm0 hq h45
          go_enter Tryz.func176, Tryz.ntmps176
          go_wp2_with fail
          refine HT.out.mono ?_
          rintro e w2 ⟨rfl, hP, hA⟩
          have HP := Lib.hid (HH.out.act hP hA)
          clear hP hA c3
          go_wp2_with fail
          refine (HMd.out _).mono ?_
          rintro e w3 ⟨rfl, rfl⟩
          go_wp2_with fail
          refine (HTk.out _ HP.out.ps).mono ?_
          rintro e w4 ⟨rfl, hP4, hA4⟩
          have HP4 := Lib.hid (HP.out.act hP4 hA4)
          clear hP4 hA4
          go_wp2_with fail
          exact ⟨rfl, by rw [HPos.out]; rfl, HP4.out.ps.ht, HP4.out.aft⟩
    · rw [if_neg hm0]
      have hm1 : modZ d = 0 := by simpa using hm0
      rw [hm1] at hmd
      have HMd := Lib.hid hmd
      by_cases e115 : d = 115
      · rw [if_pos e115]
        subst e115
        clear h hr hX hn hs hdC hrC hmd hm0 hm1
        go_enter Tryz.func176, Tryz.ntmps176
        go_wp2_with fail
        refine HT.out.mono ?_
        rintro e w2 ⟨rfl, hP, hA⟩
        have HP := Lib.hid (HH.out.act hP hA)
        clear hP hA c3
        go_wp2_with fail
        refine (HMd.out _).mono ?_
        rintro e w3 ⟨rfl, rfl⟩
        go_wp2_with fail
        go_ret
        exact ⟨rfl, _, HP.out⟩
      · rw [if_neg e115]
        have n115 : (d == 115) = false := by simpa using e115
        by_cases e100 : d = 100
        · rw [if_pos e100]
          subst e100
          clear h hr hX hn hs hdC hrC hmd hm0 hm1 e115
          go_enter Tryz.func176, Tryz.ntmps176
          go_wp2_with fail
          refine HT.out.mono ?_
          rintro e w2 ⟨rfl, hP, hA⟩
          have HP := Lib.hid (HH.out.act hP hA)
          clear hP hA c3
          go_wp2_with fail
          refine (HMd.out _).mono ?_
          rintro e w3 ⟨rfl, rfl⟩
          go_wp2_with fail
          go_ret
          exact ⟨rfl, _, HP.out⟩
        · rw [if_neg e100]
          have n100 : (d == 100) = false := by simpa using e100
          have hdn := fun W => down_any d W (by have := hdC.1; omega) (by have := hdC.2.1; omega)
          obtain ⟨D, hD⟩ : ∃ D, downZ d = D := ⟨_, rfl⟩
          rw [hD] at hdn ⊢
          have HDn := Lib.hid hdn
          by_cases hal : 97 ≤ D ∧ D ≤ 122
          · rw [if_pos hal]
            obtain ⟨l0, l1⟩ := hal
            cases hc : ctlZ d with
            | some k =>
              have HC := Lib.hid (fun x W => control_yes d k hc x W)
              clear h hr hX hn hs hdC hrC hmd hm0 hm1 e115 e100 hdn hD hc
              go_enter Tryz.func176, Tryz.ntmps176
              go_wp2_with fail
              refine HT.out.mono ?_
              rintro e w2 ⟨rfl, hP, hA⟩
              have HP := Lib.hid (HH.out.act hP hA)
              clear hP hA c3
              go_wp2_with fail
              refine (HMd.out _).mono ?_
              rintro e w3 ⟨rfl, rfl⟩
              go_wp2_with fail
              refine (HDn.out _).mono ?_
              rintro e w3 ⟨rfl, hb3⟩
              have HP3 := Lib.hid (HP.out.later hb3)
              clear hb3
              go_wp2_with fail
              refine (HDn.out _).mono ?_
              rintro e w4 ⟨rfl, hb4⟩
              have HP4 := Lib.hid (HP3.out.later hb4)
              clear hb4
              go_wp2_with fail
              refine (HC.out _ _).mono ?_
              rintro e w5 ⟨rfl, rfl⟩
              go_wp2_with fail
              go_ret
              exact ⟨rfl, _, HP4.out⟩
            | none =>
              have HC := Lib.hid (fun x W => control_no d hc x W)
              clear h hr hX hn hs hdC hrC hmd hm0 hm1 e115 e100 hdn hD hc
              go_enter Tryz.func176, Tryz.ntmps176
              go_wp2_with fail
              refine HT.out.mono ?_
              rintro e w2 ⟨rfl, hP, hA⟩
              have HP := Lib.hid (HH.out.act hP hA)
              clear hP hA c3
              go_wp2_with fail
              refine (HMd.out _).mono ?_
              rintro e w3 ⟨rfl, rfl⟩
              go_wp2_with fail
              refine (HDn.out _).mono ?_
              rintro e w3 ⟨rfl, hb3⟩
              have HP3 := Lib.hid (HP.out.later hb3)
              clear hb3
              go_wp2_with fail
              refine (HDn.out _).mono ?_
              rintro e w4 ⟨rfl, hb4⟩
              have HP4 := Lib.hid (HP3.out.later hb4)
              clear hb4
              go_wp2_with fail
              refine (HC.out b _).mono ?_
              rintro e w5 ⟨rfl, rfl⟩
              unfold faultE
              go_wp2_with fail
              exact ⟨rfl, by rw [HPos.out]; rfl, HP4.out.ps.ht, HP4.out.aft⟩
          · rw [if_neg hal]
            by_cases l0 : 97 ≤ D
            · have l1 : ¬ D ≤ 122 := fun e => hal ⟨l0, e⟩
              clear h hr hX hn hs hdC hrC hmd hm0 hm1 e115 e100 hdn hD hal
              go_enter Tryz.func176, Tryz.ntmps176
              go_wp2_with fail
              refine HT.out.mono ?_
              rintro e w2 ⟨rfl, hP, hA⟩
              have HP := Lib.hid (HH.out.act hP hA)
              clear hP hA c3
              go_wp2_with fail
              refine (HMd.out _).mono ?_
              rintro e w3 ⟨rfl, rfl⟩
              go_wp2_with fail
              refine (HDn.out _).mono ?_
              rintro e w3 ⟨rfl, hb3⟩
              have HP3 := Lib.hid (HP.out.later hb3)
              clear hb3
              go_wp2_with fail
              refine (HDn.out _).mono ?_
              rintro e w4 ⟨rfl, hb4⟩
              have HP4 := Lib.hid (HP3.out.later hb4)
              clear hb4 hsub hb0 n115 n100
              go_wp2_with fail
              go_ret
              exact ⟨rfl, _, HP4.out⟩
            · clear h hr hX hn hs hdC hrC hmd hm0 hm1 e115 e100 hdn hD hal
              go_enter Tryz.func176, Tryz.ntmps176
              go_wp2_with fail
              refine HT.out.mono ?_
              rintro e w2 ⟨rfl, hP, hA⟩
              have HP := Lib.hid (HH.out.act hP hA)
              clear hP hA c3
              go_wp2_with fail
              refine (HMd.out _).mono ?_
              rintro e w3 ⟨rfl, rfl⟩
              go_wp2_with fail
              refine (HDn.out _).mono ?_
              rintro e w3 ⟨rfl, hb3⟩
              have HP3 := Lib.hid (HP.out.later hb3)
              clear hb3 hsub hb0 n115 n100
              go_wp2_with fail
              go_ret
              exact ⟨rfl, _, HP3.out⟩
end Go.Proofs.YtlibdhnlmekmhaaGreatDoor.Rd
end

/- The contract of character. -/
section
namespace Go.Proofs.YtlibdhnlmekmhaaGreatDoor.Rd
set_option maxRecDepth 100000
open Go.RowKit Go.Lib
open Go.Proofs.YtlibdhnlmekmhaaGreatDoor.Own Go.Proofs.YtlibdhnlmekmhaaGreatDoor.Hp Go.Proofs.YtlibdhnlmekmhaaGreatDoor.Rep Go.Proofs.YtlibdhnlmekmhaaGreatDoor.Get Go.Proofs.YtlibdhnlmekmhaaGreatDoor.Utf Go.Proofs.YtlibdhnlmekmhaaGreatDoor.Chars

/-- Between two rounds of character. -/
def ChrAt (X : Fx) (w1 wr : World) (op bm : Nat) (s : St) (F : Nat → Prop) (R : Sc (Int × Int)) (u : Value) : Prop :=
  ∃ (c m : Int) (r : List Int) (a' : Nat), u = .int .i64 c ∧ ChSt X w1 wr a' op ⟨r, s.ob, s.tb⟩ F bm m ∧ m ∈ modL ∧ 1 ≤ a' ∧ ((c = -1 ∧ ∃ j, chrF j m r = R ∧ r.length ≤ j) ∨ (isC c ∧ R = .ok (c, m) r))
def chrR (s : St) : Sc (Int × Int) → Res Wd
  | .bad m => .err 5 m s.ob s.tb
  | .ok (c, m) r => if endsB r then .ok (0, modifyZ c m) ⟨r, s.ob, s.tb⟩ else .err 5 r.length s.ob s.tb
theorem charG_eq (s : St) : charG s = chrR s (chrF s.rest.length 0 s.rest.tail) := by
  unfold charG chrR
  cases chrF s.rest.length 0 s.rest.tail <;> rfl
theorem cescF_C {l : List Int} {x : Int} {r : List Int} (hl : ∀ c ∈ l, isC c) (h : cescF l = .ok (.inl x) r) : isC x := by
  cases l with
  | nil => rw [cescF] at h; cases h
  | cons d l =>
    have hd := hl d (by simp)
    rw [cescF] at h
    split at h
    · cases l with
      | nil => rw [minusF] at h; cases h
      | cons e l =>
        rw [minusF] at h
        split at h <;> cases h
    · split at h
      · cases h; exact ⟨by omega, by omega, by omega⟩
      · split at h
        · cases h; exact ⟨by omega, by omega, by omega⟩
        · split at h
          · split at h
            · rename_i k hk
              cases h
              unfold ctlZ at hk
              split at hk
              · cases hk; exact ⟨by omega, by omega, by omega⟩
              · split at hk
                · cases hk; exact ⟨by omega, by omega, by omega⟩
                · split at hk
                  · cases hk; exact ⟨by omega, by omega, by omega⟩
                  · cases hk
            · cases h
          · cases h; exact hd
theorem cescF_m {l : List Int} {b : Int} {r : List Int} (h : cescF l = .ok (.inr b) r) : b ∈ [(33554432 : Int), 67108864, 134217728] := by
  cases l with
  | nil => rw [cescF] at h; cases h
  | cons d l =>
    rw [cescF] at h
    split at h
    · rename_i hm
      cases l with
      | nil => rw [minusF] at h; cases h
      | cons e l =>
        rw [minusF] at h
        split at h
        · cases h; exact modZ_in d hm
        · cases h
    · split at h
      · cases h
      · split at h
        · cases h
        · split at h
          · split at h <;> cases h
          · cases h
theorem cescF_less {l : List Int} {o : Int ⊕ Int} {r : List Int} (h : cescF l = .ok o r) : r.length < l.length := by
  have h1 : r <:+ l.tail := by
    cases l with
    | nil => rw [cescF] at h; cases h
    | cons d l =>
      rw [cescF] at h
      show r <:+ l
      split at h
      · exact (minusF_suf h).1
      · split at h
        · cases h; exact List.suffix_refl _
        · split at h
          · cases h; exact List.suffix_refl _
          · split at h
            · split at h
              · cases h; exact List.suffix_refl _
              · cases h
            · cases h; exact List.suffix_refl _
  have := h1.length_le
  cases l with
  | nil => rw [cescF] at h; cases h
  | cons d l => simp at this ⊢; omega

set_option maxHeartbeats 4000000 in
theorem PS.character {X : Fx} {w : World} {a op : Nat} {s : St} {F : Nat → Prop} (h : PS X w a op s F) (hX : X.Ok) {c0 : Int} {t : List Int} (hr : s.rest = c0 :: t) :
    Calls Tryz.prog 129 #[pptr X.p] w (Out X w op F retW (charG s)) := by
  obtain ⟨R, hR⟩ : ∃ R, charG s = R := ⟨_, rfl⟩
  rw [hR]
  have h1 := h.alloc wbox0
  have hat := h1.at_
  rw [hr] at hat
  obtain ⟨hd, hle⟩ := drop_tail hat
  have hm := h1.move hX (a + 1) hle (.int .i64 ((a : Int) + 1)) (by simp)
  rw [hd] at hm
  have hM := h.mine (Nat.le_refl _)
  obtain ⟨n, hn⟩ : ∃ n, w.heap.size = n := ⟨_, rfl⟩
  obtain ⟨w2, hw2⟩ : ∃ w2, w2 = (w.alloc wbox0).setCell ⟨X.p, 3, none⟩ (.int .i64 ((a : Int) + 1)) := ⟨_, rfl⟩
  have hA2 : PAfter X w w2 F F := by rw [hw2]; exact (PAfter.of_below (bel_box w wbox0)).trans hm.2
  have hB2 : Blk w2 n #[.int .i64 0, .int .i64 0] 28 := by rw [hw2, ← hn]; exact (hm.2.blk (Blk.new w _ _) hM.f hM.p).1
  have hz2 : w2.heap.size = n + 1 := by rw [hw2, ← hn]; simp [World.setCell]
  have hP2 : PS X w2 (a + 1) op ⟨t, s.ob, s.tb⟩ F := by rw [hw2]; exact hm.1
  have hch : ChSt X w2 (w2.alloc (.cells #[.int .i64 0] 3)) (a + 1) op ⟨t, s.ob, s.tb⟩ F (n + 1) 0 :=
    ⟨hP2.alloc _, .of_below (bel_box _ _), by rw [← hz2]; exact Blk.new w2 _ _, by
      have := hP2.mine (b := n + 1) (by omega)
      exact ⟨this.f, this.p, this.g, this.m, this.low⟩, by omega⟩
  obtain ⟨_, _, _, c3, _, _⟩ := Blk.six h1.blk
  have f3 := h1.blk.free 3
  have hs := hX.short
  have hb0 : (a : Int) + 1 ≤ 1000000 := by omega
  rw [hn] at hM
  obtain ⟨RS, hRS⟩ : ∃ RS, chrF s.rest.length 0 t = RS := ⟨_, rfl⟩
  have HRR : Hid (R = chrR s RS) := by
    show R = _
    rw [← hR, ← hRS, charG_eq, show s.rest.tail = t by rw [hr]; rfl]
  have HX := Lib.hid hX
  have HM := Lib.hid hM
  have HA2 := Lib.hid hA2
  have HB2 := Lib.hid hB2
  have HN := Lib.hid hn
  have HZ2 := Lib.hid hz2
  have HC0 : Hid (ChrAt X w2 (w2.alloc (.cells #[.int .i64 0] 3)) op (n + 1) s F RS (.int .i64 (-1))) :=
    ⟨-1, 0, t, a + 1, rfl, hch, by simp [modL], by omega, .inl ⟨rfl, s.rest.length, hRS, by rw [hr]; simp⟩⟩
  have b0' := hch.box
  clear h h1 hR hat hd hle hm hM hA2 hB2 hz2 hP2 hch hX hs hRS hr b0'
  go_enter Tryz.func129, Tryz.ntmps129
  go_wp2_with fail
  rw [← hw2]
  try rw [HZ2.out]
  clear hw2 hn c3 f3
  go_loopw [4] (fun u wr => ChrAt X w2 wr op (n + 1) s F RS u) (fun _ wr => X.l.length - atOf wr X.p)
  case atStart => exact HC0.out
  case round =>
    obtain ⟨c, m, r, a1, rfl, hC, hmL, ha1, hcase⟩ := hrel
    have hs := HX.out.short
    have HP1 := Lib.hid hC.ps.atIs
    rcases hcase with ⟨rfl, j, hj, hjl⟩ | ⟨hcC, hRS⟩
    · cases r with
      | nil =>
        have hR2 : RS = .bad 0 := by rw [← hj]; cases j <;> rfl
        subst hR2
        have HT := Lib.hid (hC.ps.takeEnd HX.out rfl)
        have HC := Lib.hid hC
        clear hC hmL ha1 hj hjl hs
        go_wp2_with fail
        refine HT.out.mono ?_
        rintro e w6 ⟨rfl, rfl⟩
        unfold faultE
        go_wp2_with fail
        refine ⟨rfl, ?_⟩
        rw [HRR.out]
        exact ⟨rfl, F, HC.out.ps.ht, HA2.out.trans HC.out.aft⟩
      | cons d r =>
        have hdC : isC d := HX.out.chars d (List.mem_of_mem_drop (by rw [hC.ps.at_]; simp))
        have hrC : ∀ x ∈ r, isC x := fun x hx => HX.out.chars x (List.mem_of_mem_drop (by rw [hC.ps.at_]; exact List.mem_cons_of_mem _ hx))
        have HT := Lib.hid (hC.ps.take HX.out rfl)
        obtain ⟨i, rfl⟩ : ∃ i, j = i + 1 := ⟨j - 1, by simp at hjl; omega⟩
        rw [chrF] at hj
        have HLe : Hid (a1 + 1 ≤ X.l.length) := by
          have := hC.ps.n
          show _ ≤ _
          simp at this
          omega
        have HC := Lib.hid hC
        by_cases e92 : d = 92
        · rw [if_pos e92] at hj
          subst e92
          have hesc := fun W (hW : ChSt X w2 W (a1 + 1) op ⟨r, s.ob, s.tb⟩ F (n + 1) m) => hW.escape HX.out (by omega)
          simp only at hesc
          cases hq : cescF r with
          | bad k =>
            rw [hq] at hj hesc
            simp only at hj
            subst hj
            have HE := Lib.hid hesc
            clear hC hmL ha1 hjl hs hdC hrC hesc hq
            go_wp2_with fail
            refine HT.out.mono ?_
            rintro e w5 ⟨rfl, hP, hA⟩
            have HP := Lib.hid (HC.out.act hP hA)
            clear hP hA
            go_wp2_with fail
            refine (HE.out _ HP.out).mono ?_
            rintro e w6 ⟨rfl, hH, hA⟩
            have HH := Lib.hid (And.intro hH hA)
            clear hH hA
            unfold faultE
            go_wp2_with fail
            refine ⟨rfl, ?_⟩
            rw [HRR.out]
            exact ⟨rfl, F, HH.out.1, HA2.out.trans HH.out.2⟩
          | ok o r2 =>
            have hless := cescF_less hq
            cases o with
            | inl x =>
              have hxC := cescF_C hrC hq
              rw [hq] at hj hesc
              simp only at hj
              have HE := Lib.hid hesc
              have HJ := Lib.hid hj
              have HXC := Lib.hid hxC
              have HML := Lib.hid hmL
              clear hC hmL ha1 hjl hs hdC hrC hesc hq hj hxC
              go_wp2_with fail
              refine HT.out.mono ?_
              rintro e w5 ⟨rfl, hP, hA⟩
              have HP := Lib.hid (HC.out.act hP hA)
              clear hP hA
              go_wp2_with fail
              refine (HE.out _ HP.out).mono ?_
              rintro e w6 ⟨rfl, a2, hC6⟩
              have HC6 := Lib.hid hC6
              have HA2' : Hid (1 ≤ a2) := by
                have h1 := hC6.ps.n
                have h2 := HP.out.ps.n
                show 1 ≤ a2
                simp at h1 h2
                omega
              have HLs := Lib.hid hless
              clear hC6 hless
              go_wp2_with fail
              go_roundw
              case rel => exact ⟨x, m, r2, a2, rfl, HC6.out, HML.out, HA2'.out, .inr ⟨HXC.out, HJ.out.symm⟩⟩
              case measure =>
                have h1 := HP1.out
                have h2 := HC6.out.ps.atIs
                have h3 := HC6.out.ps.n
                have h4 := HC.out.ps.n
                have h5 := HLs.out
                rw [h1, h2]
                simp at h3 h4
                omega
            | inr q =>
              have hqm := cescF_m hq
              rw [hq] at hj hesc
              simp only at hj
              have HE := Lib.hid hesc
              have HJ := Lib.hid hj
              have HML := Lib.hid (mod_or m hmL q hqm)
              have HLs := Lib.hid hless
              have HJl := Lib.hid hjl
              clear hC hmL ha1 hjl hs hdC hrC hesc hq hj hqm hless
              go_wp2_with fail
              refine HT.out.mono ?_
              rintro e w5 ⟨rfl, hP, hA⟩
              have HP := Lib.hid (HC.out.act hP hA)
              clear hP hA
              go_wp2_with fail
              refine (HE.out _ HP.out).mono ?_
              rintro e w6 ⟨rfl, a2, hC6⟩
              have HC6 := Lib.hid hC6
              have HA2' : Hid (1 ≤ a2) := by
                have h1 := hC6.ps.n
                have h2 := HP.out.ps.n
                have h3 := HLs.out
                show 1 ≤ a2
                simp at h1 h2
                omega
              clear hC6
              go_wp2_with fail
              go_roundw
              case rel => exact ⟨-1, _, r2, a2, rfl, HC6.out, HML.out, HA2'.out, .inl ⟨rfl, i, HJ.out, by have h1 := HLs.out; have h2 := HJl.out; simp at h2; omega⟩⟩
              case measure =>
                have h1 := HP1.out
                have h2 := HC6.out.ps.atIs
                have h3 := HC6.out.ps.n
                have h4 := HC.out.ps.n
                have h5 := HLs.out
                rw [h1, h2]
                simp at h3 h4
                omega
        · rw [if_neg e92] at hj
          have n92 : (d == 92) = false := by simpa using e92
          have HJ := Lib.hid hj
          have HDC := Lib.hid hdC
          have HML := Lib.hid hmL
          clear hC hmL ha1 hjl hs hdC hrC hj e92
          go_wp2_with fail
          refine HT.out.mono ?_
          rintro e w5 ⟨rfl, hP, hA⟩
          have HP := Lib.hid (HC.out.act hP hA)
          clear hP hA
          go_wp2_with fail
          go_roundw
          case rel => exact ⟨d, m, r, a1 + 1, rfl, HP.out, HML.out, by omega, .inr ⟨HDC.out, HJ.out.symm⟩⟩
          case measure => have h1 := HP1.out; have h2 := HP.out.ps.atIs; have h3 := HLe.out; rw [h1, h2]; omega
    · subst hRS
      obtain ⟨q0, q1, _⟩ := hcC
      have nm1 : (c == -1) = false := by simp; omega
      have hend := hC.ps.ends HX.out 0 (by omega) (a1 : Int) (by omega)
      rw [List.drop_zero] at hend
      simp only at hend
      obtain ⟨_, _, _, c3, _, _⟩ := Blk.six hC.ps.blk
      have m0 : wr.cell? ⟨n + 1, 0, none⟩ = some (.int .i64 m) := hC.box.cell 0 _ rfl
      have hpos := hC.ps.pos
      have HC := Lib.hid hC
      cases hex : endsB r with
      | false =>
        rw [hex] at hend
        have HE := Lib.hid hend
        have HR2 : Hid (R = .err 5 r.length s.ob s.tb) := by
          show R = _
          rw [HRR.out]
          unfold chrR
          simp only [hex]
          rfl
        have HPo := Lib.hid hpos
        clear hC hmL hend hex hpos hs
        go_wp2_with (first
          | (go_at_call 169; refine HE.out.mono ?_; rintro e w' ⟨rfl, rfl⟩))
        refine ⟨rfl, ?_⟩
        rw [HR2.out]
        exact ⟨by rw [show X.l.length - r.length = a1 from HPo.out]; rfl, F, HC.out.ps.ht, HA2.out.trans HC.out.aft⟩
      | true =>
        rw [hex] at hend
        have HE := Lib.hid hend
        have HMo := Lib.hid (modify_any c m q0 q1 hmL)
        obtain ⟨v, hv⟩ : ∃ v, modifyZ c m = v := ⟨_, rfl⟩
        have HR2 : Hid (R = .ok (0, v) ⟨r, s.ob, s.tb⟩) := by
          show R = _
          rw [HRR.out]
          unfold chrR
          simp only [hex, hv]
          rfl
        rw [hv] at HMo
        have hbx := (hC.aft.blk HB2.out HM.out.f HM.out.p).1
        obtain ⟨b0, b1, e0, e1⟩ := hbx.two
        have HBx := Lib.hid hbx
        clear hC hmL hend hex hpos hs hv hbx
        go_wp2_with (first
          | (go_at_call 169; refine HE.out.mono ?_; rintro e w' ⟨rfl, rfl⟩)
          | (go_at_call 177; refine (HMo.out _).mono ?_; rintro e w' ⟨rfl, rfl⟩))
        have hf := HC.out.ps.put2 (w := w) ⟨HM.out.f, HM.out.p, HM.out.g, HM.out.m, HM.out.low⟩ (HA2.out.trans HC.out.aft) (Nat.le_of_eq HN.out) (.int .i64 0) (.int .i64 v)
        rw [HR2.out]
        refine bodyPost_ret (v := wd (0, v)) (by simp [results, Tryz.results129, go_sem, b0, b1]) rfl ⟨a1, F, rfl, hf.1, hf.2⟩
end Go.Proofs.YtlibdhnlmekmhaaGreatDoor.Rd
end
