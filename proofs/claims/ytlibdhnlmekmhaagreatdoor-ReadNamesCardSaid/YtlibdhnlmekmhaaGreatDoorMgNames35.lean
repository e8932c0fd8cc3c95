/- The contracts of modifier, modify, characterEscape. | The contract of characterEscape. -/
import Derived.Test.YtlibdhnlmekmhaaGreatDoorMgNames33
/- The contracts of modifier, modify, characterEscape. -/
section
namespace Go.Proofs.YtlibdhnlmekmhaaGreatDoor.Rd
set_option maxRecDepth 100000
open Go.RowKit Go.Lib
open Go.Proofs.YtlibdhnlmekmhaaGreatDoor.Own Go.Proofs.YtlibdhnlmekmhaaGreatDoor.Hp Go.Proofs.YtlibdhnlmekmhaaGreatDoor.Rep Go.Proofs.YtlibdhnlmekmhaaGreatDoor.Get Go.Proofs.YtlibdhnlmekmhaaGreatDoor.Utf Go.Proofs.YtlibdhnlmekmhaaGreatDoor.Chars

theorem modifier_any (c : Int) (w : World) : Calls Tryz.prog 201 #[.int .i64 c] w fun e w' => e = .returned (.int .i64 (modZ c)) ∧ w = w' := by
  unfold modZ
  by_cases h1 : c = 67
  · subst h1
    go_enter Tryz.func201, Tryz.ntmps201
    go_wp2
    go_ret
    exact ⟨rfl, rfl⟩
  · have n1 : (c == 67) = false := by simpa using h1
    rw [if_neg h1]
    by_cases h2 : c = 77
    · subst h2
      clear h1
      go_enter Tryz.func201, Tryz.ntmps201
      go_wp2
      go_ret
      exact ⟨rfl, rfl⟩
    · have n2 : (c == 77) = false := by simpa using h2
      rw [if_neg h2]
      by_cases h3 : c = 83
      · subst h3
        clear h1 h2
        go_enter Tryz.func201, Tryz.ntmps201
        go_wp2
        go_ret
        exact ⟨rfl, rfl⟩
      · have n3 : (c == 83) = false := by simpa using h3
        rw [if_neg h3]
        clear h1 h2 h3
        go_enter Tryz.func201, Tryz.ntmps201
        go_wp2
        go_ret
        exact ⟨rfl, rfl⟩
/-- The sums of modifiers. -/
def modL : List Int := [0, 33554432, 67108864, 100663296, 134217728, 167772160, 201326592, 234881024]
theorem mod_or : ∀ m ∈ modL, ∀ b ∈ [(33554432 : Int), 67108864, 134217728], bits .or .i64 m b ∈ modL := by decide +kernel
theorem modZ_in (c : Int) (h : modZ c ≠ 0) : modZ c ∈ [(33554432 : Int), 67108864, 134217728] := by
  unfold modZ at h ⊢
  split
  · simp
  · split
    · simp
    · split
      · simp
      · rename_i h1 h2 h3
        rw [if_neg h1, if_neg h2, if_neg h3] at h
        exact absurd rfl h
theorem mod_le : ∀ m ∈ modL, 0 ≤ m ∧ m ≤ 234881024 ∧ 0 ≤ bits .andNot .i64 m 67108864 ∧ bits .andNot .i64 m 67108864 ≤ 234881024 := by decide +kernel
theorem modify_any (c m : Int) (h0 : 0 ≤ c) (h1 : c ≤ 1114111) (hm : m ∈ modL) (w : World) :
    Calls Tryz.prog 177 #[.int .i64 c, .int .i64 m] w fun e w' => e = .returned (.int .i64 (modifyZ c m)) ∧ w = w' := by
  obtain ⟨m0, m1, a0, a1⟩ := mod_le m hm
  unfold modifyZ
  obtain ⟨A, hA⟩ : ∃ A, bits .and .i64 m 67108864 = A := ⟨_, rfl⟩
  obtain ⟨B, hB⟩ : ∃ B, bits .andNot .i64 m 67108864 = B := ⟨_, rfl⟩
  rw [hB] at a0 a1
  rw [hA, hB]
  by_cases hz : A = 0
  · rw [if_pos hz]
    subst hz
    clear hm
    go_enter Tryz.func177, Tryz.ntmps177
    go_wp2
    go_ret
    exact ⟨rfl, rfl⟩
  · rw [if_neg hz]
    have nz : (A == 0) = false := by simpa using hz
    clear hm hz
    by_cases hl : (97 ≤ c ∧ c ≤ 122) ∨ (64 ≤ c ∧ c ≤ 95)
    · rw [if_pos hl]
      rcases hl with ⟨l0, l1⟩ | ⟨l0, l1⟩
      · go_enter Tryz.func177, Tryz.ntmps177
        go_wp2
        go_ret
        exact ⟨rfl, rfl⟩
      · have l2 : ¬ 97 ≤ c := by omega
        go_enter Tryz.func177, Tryz.ntmps177
        go_wp2
        go_ret
        exact ⟨rfl, rfl⟩
    · rw [if_neg hl]
      by_cases hq : c = 63
      · rw [if_pos hq]
        subst hq
        clear hl
        go_enter Tryz.func177, Tryz.ntmps177
        go_wp2
        go_ret
        exact ⟨rfl, rfl⟩
      · rw [if_neg hq]
        have nq : (c == 63) = false := by simpa using hq
        have hc : c < 64 ∨ (95 < c ∧ c < 97) ∨ 122 < c := by omega
        clear hl hq
        rcases hc with hc | ⟨hc, hc2⟩ | hc
        · have l1 : ¬ 97 ≤ c := by omega
          have l2 : ¬ 64 ≤ c := by omega
          go_enter Tryz.func177, Tryz.ntmps177
          go_wp2
          go_ret
          exact ⟨rfl, rfl⟩
        · have l1 : ¬ 97 ≤ c := by omega
          have l2 : 64 ≤ c := by omega
          have l3 : ¬ c ≤ 95 := by omega
          go_enter Tryz.func177, Tryz.ntmps177
          go_wp2
          go_ret
          exact ⟨rfl, rfl⟩
        · have l1 : 97 ≤ c := by omega
          have l2 : ¬ c ≤ 122 := by omega
          have l3 : 64 ≤ c := by omega
          have l4 : ¬ c ≤ 95 := by omega
          go_enter Tryz.func177, Tryz.ntmps177
          go_wp2
          go_ret
          exact ⟨rfl, rfl⟩
end Go.Proofs.YtlibdhnlmekmhaaGreatDoor.Rd
end

/- The contract of characterEscape. -/
section
namespace Go.Proofs.YtlibdhnlmekmhaaGreatDoor.Rd
set_option maxRecDepth 100000
open Go.RowKit Go.Lib
open Go.Proofs.YtlibdhnlmekmhaaGreatDoor.Own Go.Proofs.YtlibdhnlmekmhaaGreatDoor.Hp Go.Proofs.YtlibdhnlmekmhaaGreatDoor.Rep Go.Proofs.YtlibdhnlmekmhaaGreatDoor.Get Go.Proofs.YtlibdhnlmekmhaaGreatDoor.Utf Go.Proofs.YtlibdhnlmekmhaaGreatDoor.Chars

/-- A parser and a box of modifiers beside it. -/
structure ChSt (X : Fx) (w1 W : World) (a op : Nat) (s : St) (F : Nat → Prop) (bm : Nat) (m : Int) : Prop where
  ps : PS X W a op s F
  aft : PAfter X w1 W F F
  box : Blk W bm #[.int .i64 m] 3
  mine : Mine X w1 F bm
  low : w1.heap.size ≤ bm
theorem ChSt.act {X : Fx} {w1 W W' : World} {a a' op bm : Nat} {s s' : St} {F : Nat → Prop} {m : Int} (h : ChSt X w1 W a op s F bm m) (hP : PS X W' a' op s' F) (hA : PAfter X W W' F F) : ChSt X w1 W' a' op s' F bm m :=
  ⟨hP, h.aft.trans hA, (hA.blk h.box h.mine.f h.mine.p).1, h.mine, h.low⟩
theorem ChSt.later {X : Fx} {w1 W W' : World} {a op bm : Nat} {s : St} {F : Nat → Prop} {m : Int} (h : ChSt X w1 W a op s F bm m) (hb : Below W.heap.size W W') : ChSt X w1 W' a op s F bm m := h.act (h.ps.later hb) (.of_below hb)
theorem ChSt.set {X : Fx} {w1 W : World} {a op bm : Nat} {s : St} {F : Nat → Prop} {m : Int} (h : ChSt X w1 W a op s F bm m) (m' : Int) : ChSt X w1 (W.setCell ⟨bm, 0, none⟩ (.int .i64 m')) a op s F bm m' := by
  have hk := keeps_set W bm 0 (.int .i64 m')
  exact ⟨h.ps.write hk h.mine.f h.mine.p h.mine.g h.mine.m h.mine.low, ⟨h.aft.keeps.then hk fun k hlt e => by have := h.low; omega, h.aft.grow⟩, by simpa using h.box.set 0 (.int .i64 m'), h.mine, h.low⟩
/-- How characterEscape ends. -/
def CE (X : Fx) (w1 : World) (op : Nat) (s : St) (F : Nat → Prop) (bm : Nat) (m : Int) (R : Sc (Int ⊕ Int)) (e : Ending) (w' : World) : Prop :=
  match R with
  | .ok (.inl x) r => e = .returned (.int .i64 x) ∧ ∃ a', ChSt X w1 w' a' op ⟨r, s.ob, s.tb⟩ F bm m
  | .ok (.inr b) r => e = .returned (.int .i64 (-1)) ∧ ∃ a', ChSt X w1 w' a' op ⟨r, s.ob, s.tb⟩ F bm (bits .or .i64 m b)
  | .bad k => e = faultE 5 (X.l.length - k) ∧ HT w' X.base X.hp X.lim X.tp s.ob s.tb F ∧ PAfter X w1 w' F F

set_option maxHeartbeats 2000000 in
theorem ChSt.escape {X : Fx} {w1 w : World} {a op bm : Nat} {s : St} {F : Nat → Prop} {m : Int} (h : ChSt X w1 w a op s F bm m) (hX : X.Ok) (ha : 1 ≤ a) :
    Calls Tryz.prog 176 #[pptr X.p, .pointer (some ⟨bm, 0, none⟩)] w (CE X w1 op s F bm m (cescF s.rest)) := by
  have HX := Lib.hid hX
  have HH := Lib.hid h
  obtain ⟨_, _, _, c3, _, _⟩ := Blk.six h.ps.blk
  obtain ⟨b, rfl⟩ : ∃ b, a = b + 1 := ⟨a - 1, by omega⟩
  have hsub : ((b + 1 : Nat) : Int) - 1 = (b : Int) := by omega
  have hn := h.ps.n
  have hs := hX.short
  have hb0 : (b : Int) + 1 ≤ 1000000 := by omega
  cases hr : s.rest with
  | nil =>
    have HT := Lib.hid (h.ps.takeEnd hX hr)
    clear h hr hX hn hs
    go_enter Tryz.func176, Tryz.ntmps176
    go_wp2_with fail
    refine HT.out.mono ?_
    rintro e w2 ⟨rfl, rfl⟩
    unfold faultE
    go_wp2_with fail
    exact ⟨rfl, rfl, HH.out.ps.ht, HH.out.aft⟩
  | cons d r =>
    have HT := Lib.hid (h.ps.take hX hr)
    rw [hr] at hn
    have HPos : Hid (b = X.l.length - (r.length + 2)) := by
      show _ = _
      simp at hn
      omega
    have hdC : isC d := hX.chars d (List.mem_of_mem_drop (by rw [h.ps.at_, hr]; simp))
    have hrC : ∀ x ∈ r, isC x := fun x hx => hX.chars x (List.mem_of_mem_drop (by rw [h.ps.at_, hr]; exact List.mem_cons_of_mem _ hx))
    have hmd := modifier_any d
    rw [cescF]
    by_cases hm0 : modZ d ≠ 0
    · rw [if_pos hm0]
      obtain ⟨q, hq⟩ : ∃ q, modZ d = q := ⟨_, rfl⟩
      rw [hq] at hm0 hmd ⊢
      have n0 : (q != 0) = true := by simpa using hm0
      have HMd := Lib.hid hmd
      cases r with
      | nil =>
        have HTE := Lib.hid (fun W (hW : PS X W (b + 1 + 1) op ⟨[], s.ob, s.tb⟩ F) => hW.takeEnd HX.out rfl)
        clear h hr hX hn hs hdC hrC hmd hm0 hq
        go_enter Tryz.func176, Tryz.ntmps176
        go_wp2_with fail
        refine HT.out.mono ?_
        rintro e w2 ⟨rfl, hP, hA⟩
        have HP := Lib.hid (HH.out.act hP hA)
        clear hP hA c3
        go_wp2_with fail
        refine (HMd.out _).mono ?_
        rintro e w3 ⟨rfl, rfl⟩
        go_wp2_with fail
        refine (HTE.out _ HP.out.ps).mono ?_
        rintro e w3 ⟨rfl, rfl⟩
        unfold faultE
        go_wp2_with fail
        exact ⟨rfl, rfl, HP.out.ps.ht, HP.out.aft⟩
      | cons x r =>
        have HTk := Lib.hid (fun W (hW : PS X W (b + 1 + 1) op ⟨x :: r, s.ob, s.tb⟩ F) => hW.take HX.out rfl)
        rw [minusF]
        by_cases h45 : x = 45
        · rw [if_pos h45]
          subst h45
          clear h hr hX hn hs hdC hrC hmd hm0 hq
          go_enter Tryz.func176, Tryz.ntmps176
          go_wp2_with fail
          refine HT.out.mono ?_
          rintro e w2 ⟨rfl, hP, hA⟩
          have HP := Lib.hid (HH.out.act hP hA)
          clear hP hA c3
          go_wp2_with fail
          refine (HMd.out _).mono ?_
          rintro e w3 ⟨rfl, rfl⟩
          go_wp2_with fail
          refine (HTk.out _ HP.out.ps).mono ?_
          rintro e w4 ⟨rfl, hP4, hA4⟩
          have hq4 := HP.out.act hP4 hA4
          have m0 := hq4.box.cell 0 _ rfl
          have f0 := hq4.box.free 0
          have HP4 := Lib.hid hq4
          clear hP4 hA4 hq4
          have m0' : w4.cell? ⟨bm, 0, none⟩ = some (.int .i64 m) := m0
          clear m0
          go_wp2_with fail
          go_ret
          exact ⟨rfl, _, HP4.out.set _⟩
        · rw [if_neg h45]
          have n45 : (x != 45) = true := by simpa using h45
          clear h hr hX hn hs hdC hrC hmd hm0 hq h45
          go_enter Tryz.func176, Tryz.ntmps176
          go_wp2_with fail
          refine HT.out.mono ?_
          rintro e w2 ⟨rfl, hP, hA⟩
          have HP := Lib.hid (HH.out.act hP hA)
          clear hP hA c3
          go_wp2_with fail
          refine (HMd.out _).mono ?_
          rintro e w3 ⟨rfl, rfl⟩
          go_wp2_with fail
          refine (HTk.out _ HP.out.ps).mono ?_
          rintro e w4 ⟨rfl, hP4, hA4⟩
          have HP4 := Lib.hid (HP.out.act hP4 hA4)
          clear hP4 hA4
          go_wp2_with fail
          exact ⟨rfl, by rw [HPos.out]; rfl, HP4.out.ps.ht, HP4.out.aft⟩
    · rw [if_neg hm0]
      have hm1 : modZ d = 0 := by simpa using hm0
      rw [hm1] at hmd
      have HMd := Lib.hid hmd
      by_cases e115 : d = 115
      · rw [if_pos e115]
        subst e115
        clear h hr hX hn hs hdC hrC hmd hm0 hm1
        go_enter Tryz.func176, Tryz.ntmps176
        go_wp2_with fail
        refine HT.out.mono ?_
        rintro e w2 ⟨rfl, hP, hA⟩
        have HP := Lib.hid (HH.out.act hP hA)
        clear hP hA c3
        go_wp2_with fail
        refine (HMd.out _).mono ?_
        rintro e w3 ⟨rfl, rfl⟩
        go_wp2_with fail
        go_ret
        exact ⟨rfl, _, HP.out⟩
      · rw [if_neg e115]
        have n115 : (d == 115) = false := by simpa using e115
        by_cases e100 : d = 100
        · rw [if_pos e100]
          subst e100
          clear h hr hX hn hs hdC hrC hmd hm0 hm1 e115
          go_enter Tryz.func176, Tryz.ntmps176
          go_wp2_with fail
          refine HT.out.mono ?_
          rintro e w2 ⟨rfl, hP, hA⟩
          have HP := Lib.hid (HH.out.act hP hA)
          clear hP hA c3
          go_wp2_with fail
          refine (HMd.out _).mono ?_
          rintro e w3 ⟨rfl, rfl⟩
          go_wp2_with fail
          go_ret
          exact ⟨rfl, _, HP.out⟩
        · rw [if_neg e100]
          have n100 : (d == 100) = false := by simpa using e100
          have hdn := fun W => down_any d W (by have := hdC.1; omega) (by have := hdC.2.1; omega)
          obtain ⟨D, hD⟩ : ∃ D, downZ d = D := ⟨_, rfl⟩
          rw [hD] at hdn ⊢
          have HDn := Lib.hid hdn
          by_cases hal : 97 ≤ D ∧ D ≤ 122
          · rw [if_pos hal]
            obtain ⟨l0, l1⟩ := hal
            cases hc : ctlZ d with
            | some k =>
              have HC := Lib.hid (fun x W => control_yes d k hc x W)
              clear h hr hX hn hs hdC hrC hmd hm0 hm1 e115 e100 hdn hD hc
              go_enter Tryz.func176, Tryz.ntmps176
              go_wp2_with fail
              refine HT.out.mono ?_
              rintro e w2 ⟨rfl, hP, hA⟩
              have HP := Lib.hid (HH.out.act hP hA)
              clear hP hA c3
              go_wp2_with fail
              refine (HMd.out _).mono ?_
              rintro e w3 ⟨rfl, rfl⟩
              go_wp2_with fail
              refine (HDn.out _).mono ?_
              rintro e w3 ⟨rfl, hb3⟩
              have HP3 := Lib.hid (HP.out.later hb3)
              clear hb3
              go_wp2_with fail
              refine (HDn.out _).mono ?_
              rintro e w4 ⟨rfl, hb4⟩
              have HP4 := Lib.hid (HP3.out.later hb4)
              clear hb4
              go_wp2_with fail
              refine (HC.out _ _).mono ?_
              rintro e w5 ⟨rfl, rfl⟩
              go_wp2_with fail
              go_ret
              exact ⟨rfl, _, HP4.out⟩
            | none =>
              have HC := Lib.hid (fun x W => control_no d hc x W)
              clear h hr hX hn hs hdC hrC hmd hm0 hm1 e115 e100 hdn hD hc
              go_enter Tryz.func176, Tryz.ntmps176
              go_wp2_with fail
              refine HT.out.mono ?_
              rintro e w2 ⟨rfl, hP, hA⟩
              have HP := Lib.hid (HH.out.act hP hA)
              clear hP hA c3
              go_wp2_with fail
              refine (HMd.out _).mono ?_
              rintro e w3 ⟨rfl, rfl⟩
              go_wp2_with fail
              refine (HDn.out _).mono ?_
              rintro e w3 ⟨rfl, hb3⟩
              have HP3 := Lib.hid (HP.out.later hb3)
              clear hb3
              go_wp2_with fail
              refine (HDn.out _).mono ?_
              rintro e w4 ⟨rfl, hb4⟩
              have HP4 := Lib.hid (HP3.out.later hb4)
              clear hb4
              go_wp2_with fail
              refine (HC.out b _).mono ?_
              rintro e w5 ⟨rfl, rfl⟩
              unfold faultE
              go_wp2_with fail
              exact ⟨rfl, by rw [HPos.out]; rfl, HP4.out.ps.ht, HP4.out.aft⟩
          · rw [if_neg hal]
            by_cases l0 : 97 ≤ D
            · have l1 : ¬ D ≤ 122 := fun e => hal ⟨l0, e⟩
              clear h hr hX hn hs hdC hrC hmd hm0 hm1 e115 e100 hdn hD hal
              go_enter Tryz.func176, Tryz.ntmps176
              go_wp2_with fail
              refine HT.out.mono ?_
              rintro e w2 ⟨rfl, hP, hA⟩
              have HP := Lib.hid (HH.out.act hP hA)
              clear hP hA c3
              go_wp2_with fail
              refine (HMd.out _).mono ?_
              rintro e w3 ⟨rfl, rfl⟩
              go_wp2_with fail
              refine (HDn.out _).mono ?_
              rintro e w3 ⟨rfl, hb3⟩
              have HP3 := Lib.hid (HP.out.later hb3)
              clear hb3
              go_wp2_with fail
              refine (HDn.out _).mono ?_
              rintro e w4 ⟨rfl, hb4⟩
              have HP4 := Lib.hid (HP3.out.later hb4)
              clear hb4 hsub hb0 n115 n100
              go_wp2_with fail
              go_ret
              exact ⟨rfl, _, HP4.out⟩
            · clear h hr hX hn hs hdC hrC hmd hm0 hm1 e115 e100 hdn hD hal
              go_enter Tryz.func176, Tryz.ntmps176
              go_wp2_with fail
              refine HT.out.mono ?_
              rintro e w2 ⟨rfl, hP, hA⟩
              have HP := Lib.hid (HH.out.act hP hA)
              clear hP hA c3
              go_wp2_with fail
              refine (HMd.out _).mono ?_
              rintro e w3 ⟨rfl, rfl⟩
              go_wp2_with fail
              refine (HDn.out _).mono ?_
              rintro e w3 ⟨rfl, hb3⟩
              have HP3 := Lib.hid (HP.out.later hb3)
              clear hb3 hsub hb0 n115 n100
              go_wp2_with fail
              go_ret
              exact ⟨rfl, _, HP3.out⟩
end Go.Proofs.YtlibdhnlmekmhaaGreatDoor.Rd
end
