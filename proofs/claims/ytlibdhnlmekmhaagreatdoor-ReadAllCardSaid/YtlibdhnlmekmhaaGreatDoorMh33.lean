/- The contracts of numbered, textEscape. | The contract of textEscape. | The contract of text. | The contract of text: the walk. -/
import Derived.Lib.OthersKept
import Derived.Test.YtlibdhnlmekmhaaGreatDoorMh32
/- The contracts of numbered, textEscape. -/
section
namespace Go.Proofs.YtlibdhnlmekmhaaGreatDoor.Rd
set_option maxRecDepth 100000
open Go.RowKit Go.Lib
open Go.Proofs.YtlibdhnlmekmhaaGreatDoor.Own Go.Proofs.YtlibdhnlmekmhaaGreatDoor.Hp Go.Proofs.YtlibdhnlmekmhaaGreatDoor.Rep Go.Proofs.YtlibdhnlmekmhaaGreatDoor.Get Go.Proofs.YtlibdhnlmekmhaaGreatDoor.Utf Go.Proofs.YtlibdhnlmekmhaaGreatDoor.Chars

/-- How a method ends that neither creates nor interns. -/
def OutS {α : Type} (X : Fx) (w : World) (op : Nat) (s : St) (F : Nat → Prop) (ret : α → Ending) (R : Sc α) (e : Ending) (w' : World) : Prop :=
  match R with
  | .ok x r => e = ret x ∧ ∃ a', PS X w' a' op ⟨r, s.ob, s.tb⟩ F ∧ PAfter X w w' F F
  | .bad m => e = faultE 5 (X.l.length - m) ∧ HT w' X.base X.hp X.lim X.tp s.ob s.tb F ∧ PAfter X w w' F F
def retI (n : Int) : Ending := .returned (.int .i64 n)
theorem dig_lt (c : Int) : digZ c < 16 := by
  unfold digZ
  split
  · omega
  · split <;> omega

/-- Between two rounds of numbered. -/
def HexAt (X : Fx) (w wr : World) (op : Nat) (s : St) (F : Nat → Prop) (st : Nat) (R : Sc Int) (u5 u6 u7 : Value) : Prop :=
  ∃ (k N : Nat) (c : Int) (r : List Int) (a' : Nat), u5 = .int .i64 (N : Int) ∧ u6 = .int .i64 (k : Int) ∧ u7 = .int .i64 c ∧ PS X wr a' op ⟨r, s.ob, s.tb⟩ F ∧ PAfter X w wr F F ∧ hexF st k N (c :: r) = R ∧ isC c ∧ N < 16 ^ k ∧ k ≤ 6

set_option maxHeartbeats 2000000 in
theorem PS.numbered {X : Fx} {w : World} {a op : Nat} {s : St} {F : Nat → Prop} (h : PS X w a op s F) (hX : X.Ok) (st k0 : Nat) (hk0 : k0 = X.l.length - st) :
    Calls Tryz.prog 196 #[pptr X.p, .int .i64 (k0 : Int)] w (OutS X w op s F retI (hexF st 0 0 s.rest)) := by
  obtain ⟨R, hR⟩ : ∃ R, hexF st 0 0 s.rest = R := ⟨_, rfl⟩
  rw [hR]
  have HX := Lib.hid hX
  have HK := Lib.hid hk0
  have HH := Lib.hid h
  cases hr : s.rest with
  | nil =>
    rw [hr] at hR
    have hR2 : R = .bad 0 := hR.symm
    subst hR2
    have HT := Lib.hid (h.takeEnd hX hr)
    clear h hr hR hX hk0
    go_enter Tryz.func196, Tryz.ntmps196
    go_wp2_with fail
    refine HT.out.mono ?_
    rintro e w2 ⟨rfl, rfl⟩
    unfold faultE
    go_wp2_with fail
    exact ⟨rfl, rfl, HH.out.ht, .refl _ _ _⟩
  | cons c r =>
    rw [hr] at hR
    have hcc : isC c := hX.chars c (List.mem_of_mem_drop (by rw [h.at_, hr]; simp))
    have HT := Lib.hid (h.take hX hr)
    have HR := Lib.hid hR
    clear h hr hR hX hk0
    go_enter Tryz.func196, Tryz.ntmps196
    go_wp2_with fail
    refine HT.out.mono ?_
    rintro e w2 ⟨rfl, hP2, hA2⟩
    have H0 := Lib.hid (show HexAt X w w2 op s F st R (.int .i64 0) (.int .i64 0) (.int .i64 c) from ⟨0, 0, c, r, a + 1, rfl, rfl, rfl, hP2, hA2, HR.out, hcc, by simp, by omega⟩)
    clear hP2 hA2 hcc
    go_wp2_with fail
    go_loopw [5, 6, 7] (fun u5 u6 u7 wr => HexAt X w wr op s F st R u5 u6 u7) (fun _ _ _ wr => X.l.length - atOf wr X.p)
    case atStart => exact H0.out
    case round =>
      obtain ⟨k, N, c, r, a1, rfl, rfl, rfl, hP, hA, hh, hc, hN, hk⟩ := hrel
      have HP1 := Lib.hid hP.atIs
      have HPA := Lib.hid (And.intro hP hA)
      have hdl := dig_lt c
      have HDg := Lib.hid (digit_any c hc)
      have HCc := Lib.hid hc
      rw [hexF] at hh
      by_cases hgo : k < 6 ∧ 0 ≤ digZ c
      · rw [if_pos hgo] at hh
        obtain ⟨hk6, hd0⟩ := hgo
        obtain ⟨D, hD⟩ := Int.eq_ofNat_of_zero_le hd0
        rw [hD] at hh HDg hdl
        have hpow : 16 ^ k ≤ 16 ^ 5 := Nat.pow_le_pow_right (by omega) (by omega)
        have hN2 : N < 1048576 := by omega
        have hN3 : 16 * N + D < 16 ^ (k + 1) := by rw [Nat.pow_succ]; omega
        have hkz : (k : Int) < 6 := by omega
        have hD16 : (D : Int) < 16 := hdl
        have hNz : (N : Int) < 1048576 := by omega
        have HN3 := Lib.hid hN3
        have HK6 := Lib.hid hk6
        cases r with
        | nil =>
          have hR2 : R = .bad 0 := by rw [← hh, hexF]
          subst hR2
          have HTE := Lib.hid (fun W (hPW : PS X W a1 op ⟨[], s.ob, s.tb⟩ F) => hPW.takeEnd HX.out rfl)
          clear hh hP hA hc hN hk hk6 hd0 hD hpow hN2 hN3 hdl
          go_wp2_with fail
          refine (HDg.out _).mono ?_
          rintro e w4 ⟨rfl, hb4⟩
          have HB4 := Lib.hid hb4
          clear hb4
          go_wp2_with fail
          refine (HDg.out _).mono ?_
          rintro e w5 ⟨rfl, hb5⟩
          have HB5 := Lib.hid hb5
          clear hb5
          go_wp2_with fail
          refine (HTE.out _ (HPA.out.1.later (HB4.out.trans (HB5.out.mono HB4.out.size)))).mono ?_
          rintro e w6 ⟨rfl, rfl⟩
          unfold faultE
          go_wp2_with fail
          have hb := HB4.out.trans (HB5.out.mono HB4.out.size)
          exact ⟨rfl, rfl, (HPA.out.1.later hb).ht, HPA.out.2.then_below hb⟩
        | cons c2 r =>
          have hc2 : isC c2 := HX.out.chars c2 (List.mem_of_mem_drop (by rw [hP.at_]; simp))
          have HTk := Lib.hid (fun W (hPW : PS X W a1 op ⟨c2 :: r, s.ob, s.tb⟩ F) => hPW.take HX.out rfl)
          have HF := Lib.hid (fun W (hPW : PS X W (a1 + 1) op ⟨r, s.ob, s.tb⟩ F) (hAW : PAfter X w W F F) => show HexAt X w W op s F st R (.int .i64 (16 * (N : Int) + (D : Int))) (.int .i64 ((k : Int) + 1)) (.int .i64 c2) from
            ⟨k + 1, 16 * N + D, c2, r, a1 + 1, by simp, by simp, rfl, hPW, hAW, by rw [← hh]; simp, hc2, HN3.out, by have := HK6.out; omega⟩)
          have HLe : Hid (a1 + 1 ≤ X.l.length) := by
            have := hP.n
            show _ ≤ _
            simp at this
            omega
          clear hh hP hA hc hN hk hk6 hd0 hD hpow hN2 hN3 hdl hc2
          go_wp2_with fail
          refine (HDg.out _).mono ?_
          rintro e w4 ⟨rfl, hb4⟩
          have HB4 := Lib.hid hb4
          clear hb4
          go_wp2_with fail
          refine (HDg.out _).mono ?_
          rintro e w5 ⟨rfl, hb5⟩
          have HB5 := Lib.hid hb5
          clear hb5
          go_wp2_with fail
          have hb := HB4.out.trans (HB5.out.mono HB4.out.size)
          have hA5 := Lib.hid (HPA.out.2.then_below hb)
          refine (HTk.out _ (HPA.out.1.later hb)).mono ?_
          clear hb
          rintro e w6 ⟨rfl, hP6, hA6⟩
          have HP6 := Lib.hid hP6
          have HA6 := Lib.hid (hA5.out.trans hA6)
          clear hP6 hA6
          go_wp2_with fail
          go_roundw
          case rel => exact HF.out _ HP6.out HA6.out
          case measure => have h1 := HP1.out; have h2 := HP6.out.atIs; have h3 := HLe.out; rw [h1, h2]; omega
      · rw [if_neg hgo] at hh
        have HIs := Lib.hid (fun W => is_any (N : Int) W)
        have hpow : 16 ^ k ≤ 16 ^ 6 := Nat.pow_le_pow_right (by omega) hk
        have hN2 : (N : Int) < 16777216 := by omega
        have HG := Lib.hid hgo
        by_cases hbad : k = 0 ∨ c ≠ 92 ∨ isZ (N : Int) = false
        · rw [if_pos hbad] at hh
          subst hh
          by_cases hk6 : k < 6
          · have hd0 : digZ c < 0 := by have : ¬ 0 ≤ digZ c := fun e => hgo ⟨hk6, e⟩; omega
            obtain ⟨d, hd⟩ : ∃ d, digZ c = d := ⟨_, rfl⟩
            rw [hd] at hd0 HDg
            have hkz : (k : Int) < 6 := by omega
            by_cases e0 : k = 0
            · subst e0
              clear hP hA hc hN hk hpow hgo hbad hd hdl hN2
              go_wp2_with fail
              refine (HDg.out _).mono ?_
              rintro e w4 ⟨rfl, hb4⟩
              have HB4 := Lib.hid hb4
              clear hb4
              go_wp2_with fail
              exact ⟨rfl, by rw [HK.out]; rfl, (HPA.out.1.later HB4.out).ht, HPA.out.2.then_below HB4.out⟩
            · have z0 : ((k : Int) == 0) = false := by simp; omega
              have z0' : (k == 0) = false := by simp; omega
              by_cases e92 : c = 92
              · have hz : isZ (N : Int) = false := by rcases hbad with e | e | e; exact absurd e e0; exact absurd e92 e; exact e
                rw [hz] at HIs
                subst e92
                clear hP hA hc hN hk hpow hgo hbad hd hdl hN2 hz e0
                go_wp2_with fail
                refine (HDg.out _).mono ?_
                rintro e w4 ⟨rfl, hb4⟩
                have HB4 := Lib.hid hb4
                clear hb4
                go_wp2_with fail
                refine (HIs.out _).mono ?_
                rintro e w5 ⟨rfl, rfl⟩
                go_wp2_with fail
                exact ⟨rfl, by rw [HK.out]; rfl, (HPA.out.1.later HB4.out).ht, HPA.out.2.then_below HB4.out⟩
              · have n92 : (c != 92) = true := by simpa using e92
                clear hP hA hc hN hk hpow hgo hbad hd hdl hN2 e0 e92
                go_wp2_with fail
                refine (HDg.out _).mono ?_
                rintro e w4 ⟨rfl, hb4⟩
                have HB4 := Lib.hid hb4
                clear hb4
                go_wp2_with fail
                exact ⟨rfl, by rw [HK.out]; rfl, (HPA.out.1.later HB4.out).ht, HPA.out.2.then_below HB4.out⟩
          · have hk6' : k = 6 := by omega
            subst hk6'
            by_cases e92 : c = 92
            · have hz : isZ (N : Int) = false := by rcases hbad with e | e | e; omega; exact absurd e92 e; exact e
              rw [hz] at HIs
              subst e92
              clear hP hA hc hN hk hpow hgo hbad hdl hN2 hz hk6
              go_wp2_with fail
              refine (HIs.out _).mono ?_
              rintro e w5 ⟨rfl, rfl⟩
              go_wp2_with fail
              exact ⟨rfl, by rw [HK.out]; rfl, HPA.out.1.ht, HPA.out.2⟩
            · have n92 : (c != 92) = true := by simpa using e92
              clear hP hA hc hN hk hpow hgo hbad hdl hN2 hk6 e92
              go_wp2_with fail
              exact ⟨rfl, by rw [HK.out]; rfl, HPA.out.1.ht, HPA.out.2⟩
        · rw [if_neg hbad] at hh
          subst hh
          simp only [not_or, ne_eq, Classical.not_not, Bool.not_eq_false] at hbad
          obtain ⟨e0, rfl, hz⟩ := hbad
          rw [hz] at HIs
          have z0 : ((k : Int) == 0) = false := by simp; omega
          have z0' : (k == 0) = false := by simp; omega
          by_cases hk6 : k < 6
          · have hd0 : digZ 92 < 0 := by have : ¬ 0 ≤ digZ 92 := fun e => hgo ⟨hk6, e⟩; omega
            obtain ⟨d, hd⟩ : ∃ d, digZ 92 = d := ⟨_, rfl⟩
            rw [hd] at hd0 HDg
            have hkz : (k : Int) < 6 := by omega
            clear hP hA hc hN hk hpow hgo hd hdl hN2 hz e0
            go_wp2_with fail
            refine (HDg.out _).mono ?_
            rintro e w4 ⟨rfl, hb4⟩
            have HB4 := Lib.hid hb4
            clear hb4
            go_wp2_with fail
            refine (HIs.out _).mono ?_
            rintro e w5 ⟨rfl, rfl⟩
            go_wp2_with fail
            go_ret
            exact ⟨rfl, a1, HPA.out.1.later HB4.out, HPA.out.2.then_below HB4.out⟩
          · have hkz : ¬ (k : Int) < 6 := by omega
            clear hP hA hc hN hk hpow hgo hdl hN2 hz e0
            go_wp2_with fail
            refine (HIs.out _).mono ?_
            rintro e w5 ⟨rfl, rfl⟩
            go_wp2_with fail
            go_ret
            exact ⟨rfl, a1, HPA.out.1, HPA.out.2⟩
end Go.Proofs.YtlibdhnlmekmhaaGreatDoor.Rd
end

/- The contract of textEscape. -/
section
namespace Go.Proofs.YtlibdhnlmekmhaaGreatDoor.Rd
set_option maxRecDepth 100000
open Go.RowKit Go.Lib
open Go.Proofs.YtlibdhnlmekmhaaGreatDoor.Own Go.Proofs.YtlibdhnlmekmhaaGreatDoor.Hp Go.Proofs.YtlibdhnlmekmhaaGreatDoor.Rep Go.Proofs.YtlibdhnlmekmhaaGreatDoor.Get Go.Proofs.YtlibdhnlmekmhaaGreatDoor.Utf Go.Proofs.YtlibdhnlmekmhaaGreatDoor.Chars

def retO (o : Option Int) : Ending := .returned (.int .i64 (o.getD (-1)))
set_option maxHeartbeats 1000000 in
theorem PS.textEscape {X : Fx} {w : World} {a op : Nat} {s : St} {F : Nat → Prop} (h : PS X w a op s F) (hX : X.Ok) (ha : 1 ≤ a) :
    Calls Tryz.prog 172 #[pptr X.p] w (OutS X w op s F retO (escF s.rest)) := by
  have HX := Lib.hid hX
  have HH := Lib.hid h
  obtain ⟨_, _, _, c3, _, _⟩ := Blk.six h.blk
  obtain ⟨b, rfl⟩ : ∃ b, a = b + 1 := ⟨a - 1, by omega⟩
  have hsub : ((b + 1 : Nat) : Int) - 1 = (b : Int) := by omega
  have hn := h.n
  have hs := hX.short
  have hb0 : (b : Int) + 1 ≤ 1000000 := by omega
  cases hr : s.rest with
  | nil =>
    have HT := Lib.hid (h.takeEnd hX hr)
    clear h hr hX hn hs
    go_enter Tryz.func172, Tryz.ntmps172
    go_wp2_with fail
    refine HT.out.mono ?_
    rintro e w2 ⟨rfl, rfl⟩
    unfold faultE
    go_wp2_with fail
    exact ⟨rfl, rfl, HH.out.ht, .refl _ _ _⟩
  | cons d r =>
    have HT := Lib.hid (h.take hX hr)
    rw [hr] at hn
    have HPos : Hid (b = X.l.length - (r.length + 2)) := by
      show _ = _
      simp at hn
      omega
    rw [escF]
    by_cases h1 : d = 92 ∨ d = 34
    · rw [if_pos h1]
      clear h hr hX hn hs
      rcases h1 with rfl | rfl
      · go_enter Tryz.func172, Tryz.ntmps172
        go_wp2_with fail
        refine HT.out.mono ?_
        rintro e w2 ⟨rfl, hP, hA⟩
        have HP := Lib.hid (And.intro hP hA)
        clear hP hA c3
        go_wp2_with fail
        go_ret
        exact ⟨rfl, _, HP.out⟩
      · go_enter Tryz.func172, Tryz.ntmps172
        go_wp2_with fail
        refine HT.out.mono ?_
        rintro e w2 ⟨rfl, hP, hA⟩
        have HP := Lib.hid (And.intro hP hA)
        clear hP hA c3
        go_wp2_with fail
        go_ret
        exact ⟨rfl, _, HP.out⟩
    · rw [if_neg h1]
      have n1 : (d == 92) = false := by rw [beq_eq_false_iff_ne]; exact fun e => h1 (.inl e)
      have n2 : (d == 34) = false := by rw [beq_eq_false_iff_ne]; exact fun e => h1 (.inr e)
      by_cases h10 : d = 10
      · rw [if_pos h10]
        subst h10
        clear h hr hX hn hs h1
        go_enter Tryz.func172, Tryz.ntmps172
        go_wp2_with fail
        refine HT.out.mono ?_
        rintro e w2 ⟨rfl, hP, hA⟩
        have HP := Lib.hid (And.intro hP hA)
        clear hP hA c3
        go_wp2_with fail
        go_ret
        exact ⟨rfl, _, HP.out⟩
      · rw [if_neg h10]
        have n3 : (d == 10) = false := by simpa using h10
        by_cases hx : d = 120
        · rw [if_pos hx]
          subst hx
          have hn2 := fun W (hW : PS X W (b + 1 + 1) op ⟨r, s.ob, s.tb⟩ F) => hW.numbered HX.out (r.length + 2) b HPos.out
          simp only at hn2
          cases hq : hexF (r.length + 2) 0 0 r with
          | ok n r2 =>
            rw [hq] at hn2
            have HN := Lib.hid hn2
            dsimp only
            clear h hr hX hn hs h1 h10 hn2 hq
            go_enter Tryz.func172, Tryz.ntmps172
            go_wp2_with fail
            refine HT.out.mono ?_
            rintro e w2 ⟨rfl, hP, hA⟩
            have HP := Lib.hid (And.intro hP hA)
            clear hP hA c3
            go_wp2_with fail
            refine (HN.out _ HP.out.1).mono ?_
            rintro e w3 ⟨rfl, a2, hP2, hA2⟩
            have HP2 := Lib.hid (And.intro hP2 hA2)
            clear hP2 hA2
            unfold retI
            go_wp2_with fail
            go_ret
            exact ⟨rfl, a2, HP2.out.1, HP.out.2.trans HP2.out.2⟩
          | bad m =>
            rw [hq] at hn2
            have HN := Lib.hid hn2
            dsimp only
            clear h hr hX hn hs h1 h10 hn2 hq
            go_enter Tryz.func172, Tryz.ntmps172
            go_wp2_with fail
            refine HT.out.mono ?_
            rintro e w2 ⟨rfl, hP, hA⟩
            have HP := Lib.hid (And.intro hP hA)
            clear hP hA c3
            go_wp2_with fail
            refine (HN.out _ HP.out.1).mono ?_
            rintro e w3 ⟨rfl, hP2, hA2⟩
            have HP2 := Lib.hid (And.intro hP2 hA2)
            clear hP2 hA2
            unfold faultE
            go_wp2_with fail
            exact ⟨rfl, rfl, HP2.out.1, HP.out.2.trans HP2.out.2⟩
        · rw [if_neg hx]
          have n4 : (d == 120) = false := by simpa using hx
          cases hc : ctlZ d with
          | some k =>
            have HC := Lib.hid (fun x W => control_yes d k hc x W)
            clear h hr hX hn hs h1 h10 hx hc
            go_enter Tryz.func172, Tryz.ntmps172
            go_wp2_with fail
            refine HT.out.mono ?_
            rintro e w2 ⟨rfl, hP, hA⟩
            have HP := Lib.hid (And.intro hP hA)
            clear hP hA c3
            go_wp2_with fail
            refine (HC.out _ _).mono ?_
            rintro e w3 ⟨rfl, rfl⟩
            go_wp2_with fail
            go_ret
            exact ⟨rfl, _, HP.out⟩
          | none =>
            have HC := Lib.hid (fun x W => control_no d hc x W)
            clear h hr hX hn hs h1 h10 hx hc
            go_enter Tryz.func172, Tryz.ntmps172
            go_wp2_with fail
            refine HT.out.mono ?_
            rintro e w2 ⟨rfl, hP, hA⟩
            have HP := Lib.hid (And.intro hP hA)
            clear hP hA c3
            go_wp2_with fail
            refine (HC.out b _).mono ?_
            rintro e w3 ⟨rfl, rfl⟩
            unfold faultE
            go_wp2_with fail
            exact ⟨rfl, by rw [HPos.out]; rfl, HP.out.1.ht, HP.out.2⟩
end Go.Proofs.YtlibdhnlmekmhaaGreatDoor.Rd
end

/- The contract of text. -/
section
namespace Go.Proofs.YtlibdhnlmekmhaaGreatDoor.Rd
set_option maxRecDepth 100000
open Go.RowKit Go.Lib
open Go.Proofs.YtlibdhnlmekmhaaGreatDoor.Own Go.Proofs.YtlibdhnlmekmhaaGreatDoor.Hp Go.Proofs.YtlibdhnlmekmhaaGreatDoor.Rep Go.Proofs.YtlibdhnlmekmhaaGreatDoor.Get Go.Proofs.YtlibdhnlmekmhaaGreatDoor.Utf Go.Proofs.YtlibdhnlmekmhaaGreatDoor.Chars Go.Proofs.YtlibdhnlmekmhaaGreatDoor.Make

theorem hexF_isZ (st : Nat) : ∀ (l : List Int) (k : Nat) (n x : Int) (r : List Int), hexF st k n l = .ok x r → isZ x = true
  | [], k, n, x, r, h => by rw [hexF] at h; cases h
  | c :: l, k, n, x, r, h => by
    rw [hexF] at h
    split at h
    · exact hexF_isZ st l _ _ x r h
    · split at h
      · cases h
      · rename_i hb
        cases h
        simp only [not_or, Bool.not_eq_false] at hb
        exact hb.2.2
theorem escF_isC {l : List Int} {x : Int} {r : List Int} (hl : ∀ c ∈ l, isC c) (h : escF l = .ok (some x) r) : isC x := by
  cases l with
  | nil => rw [escF] at h; cases h
  | cons d l =>
    have hd := hl d (by simp)
    rw [escF] at h
    split at h
    · cases h; exact hd
    · split at h
      · cases h
      · split at h
        · split at h
          · rename_i n r' he
            cases h
            exact (isZ_iff _).1 (hexF_isZ _ _ _ _ _ _ he)
          · cases h
        · split at h
          · rename_i k hk
            cases h
            unfold ctlZ at hk
            split at hk
            · cases hk; exact ⟨by omega, by omega, by omega⟩
            · split at hk
              · cases hk; exact ⟨by omega, by omega, by omega⟩
              · split at hk
                · cases hk; exact ⟨by omega, by omega, by omega⟩
                · cases hk
          · cases h
theorem Bd.later {X : Fx} {w wr w' : World} {a op B b : Nat} {s : St} {F : Nat → Prop} {acc : List Int} (h : Bd X w wr a op B b s F acc) (hb : Below wr.heap.size wr w') : Bd X w w' a op B b s F acc where
  ps := h.ps.later hb
  aft := h.aft.then_below hb
  low := h.low
  wB := h.wB
  Bw := Nat.le_trans h.Bw hb.size
  bd := builder_keeps h.bd (Keeps.of_below (F := fun _ => False) hb) fun _ hf => hf.elim
/-- String, and what it keeps besides. -/
theorem Bd.stringK {X : Fx} {w wr : World} {a op B b : Nat} {s : St} {F : Nat → Prop} {acc : List Int} (h : Bd X w wr a op B b s F acc) :
    Calls Tryz.prog 175 #[.pointer (some ⟨b, 0, none⟩)] wr fun e w' => e = .returned (.string (strOf (enc acc))) ∧ PS X w' a op s F ∧ PAfter X w w' F F ∧ ∀ k cs, k ≠ b → Blk wr k cs 28 → Blk w' k cs 28 := by
  refine (Tryz.Builder_String_any_k B b (enc acc) wr h.bd h.Bw).mono ?_
  rintro e w' ⟨rfl, _, hb, ho⟩
  exact ⟨rfl, h.ps.above h.low hb, h.aft.above h.wB hb, fun k cs hk hB => ho k _ hB (fun e => hk (Option.some.inj e)) (fun _ _ e => by cases e)⟩

/-- Between two rounds of text. -/
def StrAt (X : Fx) (w2 wr : World) (op b : Nat) (s : St) (F : Nat → Prop) (R : Sc (List Int)) (u : Value) : Prop :=
  ∃ (c : Int) (acc r : List Int) (a' j : Nat), u = .int .i64 c ∧ Bd X w2 wr a' op b b ⟨r, s.ob, s.tb⟩ F acc ∧ strF j acc (c :: r) = R ∧ isC c ∧ (∀ x ∈ acc, isC x) ∧ r.length + 1 ≤ j ∧ acc.length + r.length ≤ X.l.length ∧ 1 ≤ a'
end Go.Proofs.YtlibdhnlmekmhaaGreatDoor.Rd
end

/- The contract of text: the walk. -/
section
namespace Go.Proofs.YtlibdhnlmekmhaaGreatDoor.Rd
set_option maxRecDepth 100000
open Go.RowKit Go.Lib
open Go.Proofs.YtlibdhnlmekmhaaGreatDoor.Own Go.Proofs.YtlibdhnlmekmhaaGreatDoor.Hp Go.Proofs.YtlibdhnlmekmhaaGreatDoor.Rep Go.Proofs.YtlibdhnlmekmhaaGreatDoor.Get Go.Proofs.YtlibdhnlmekmhaaGreatDoor.Utf Go.Proofs.YtlibdhnlmekmhaaGreatDoor.Chars Go.Proofs.YtlibdhnlmekmhaaGreatDoor.Make

/-- Behind the characters of a string: the world, its blocks. -/
structure TxtSt (X : Fx) (w W : World) (a op n : Nat) (s : St) (F F' : Nat → Prop) : Prop where
  ps : PS X W a op s F'
  aft : PAfter X w W F F'
  box : Blk W n #[.int .i64 0, .int .i64 0] 28
  mine : Mine X w F' n
theorem TxtSt.later {X : Fx} {w W W' : World} {a op n : Nat} {s : St} {F F' : Nat → Prop} (h : TxtSt X w W a op n s F F') (hb : Below W.heap.size W W') : TxtSt X w W' a op n s F F' := ⟨h.ps.later hb, h.aft.then_below hb, h.box.below hb, h.mine⟩
theorem TxtSt.put {X : Fx} {w W : World} {a op n B : Nat} {s : St} {F F' : Nat → Prop} (h : TxtSt X w W a op n s F F') (hm : Mine X w F' B) (hn : n ≠ B) (hw : w.heap.size ≤ B) (u v : Value) : TxtSt X w ((W.setCell ⟨B, 0, none⟩ u).setCell ⟨B, 1, none⟩ v) a op n s F F' := by
  have hk : Keeps (fun k => k = B) W ((W.setCell ⟨B, 0, none⟩ u).setCell ⟨B, 1, none⟩ v) := (keeps_set W B 0 u).trans (keeps_set _ B 1 v)
  have := h.ps.put2 hm h.aft hw u v
  exact ⟨this.1, this.2, h.box.keeps hk hn, h.mine⟩
/-- What becomes of the characters of a string. -/
def txtR (lim : Nat) (s : St) : Sc (List Int) → Res Wd
  | .bad m => .err 5 m s.ob s.tb
  | .ok acc r => if (textO s.ob lim (strOf (enc acc))).2.1 = 0 then .ok (textO s.ob lim (strOf (enc acc))).1 ⟨r, (textO s.ob lim (strOf (enc acc))).2.2, s.tb⟩
    else .err (textO s.ob lim (strOf (enc acc))).2.1 s.rest.length (textO s.ob lim (strOf (enc acc))).2.2 s.tb
theorem textG_eq (lim : Nat) (s : St) : textG lim s = txtR lim s (strF s.rest.length [] s.rest.tail) := by
  unfold textG txtR
  cases strF s.rest.length [] s.rest.tail <;> rfl

set_option maxHeartbeats 8000000 in
theorem PS.text {X : Fx} {w : World} {a op : Nat} {s : St} {F : Nat → Prop} (h : PS X w a op s F) (hX : X.Ok) {c0 : Int} {t : List Int} (hr : s.rest = c0 :: t) :
    Calls Tryz.prog 128 #[pptr X.p] w (Out X w op F retW (textG X.lim s)) := by
  obtain ⟨R, hR⟩ : ∃ R, textG X.lim s = R := ⟨_, rfl⟩
  rw [hR]
  have hpos := h.pos
  have hnn := h.n
  rw [hr] at hnn
  have h1 := h.alloc wbox0
  have hat := h1.at_
  rw [hr] at hat
  obtain ⟨hd, hle⟩ := drop_tail hat
  have hm := h1.move hX (a + 1) hle (.int .i64 ((a : Int) + 1)) (by simp)
  rw [hd] at hm
  have hM := h.mine (Nat.le_refl _)
  obtain ⟨n, hn⟩ : ∃ n, w.heap.size = n := ⟨_, rfl⟩
  obtain ⟨w2, hw2⟩ : ∃ w2, w2 = (w.alloc wbox0).setCell ⟨X.p, 3, none⟩ (.int .i64 ((a : Int) + 1)) := ⟨_, rfl⟩
  have hA2 : PAfter X w w2 F F := by rw [hw2]; exact (PAfter.of_below (bel_box w wbox0)).trans hm.2
  have hB2 : Blk w2 n #[.int .i64 0, .int .i64 0] 28 := by rw [hw2, ← hn]; exact (hm.2.blk (Blk.new w _ _) hM.f hM.p).1
  have hz2 : w2.heap.size = n + 1 := by rw [hw2, ← hn]; simp [World.setCell]
  have hP2 : PS X w2 (a + 1) op ⟨t, s.ob, s.tb⟩ F := by rw [hw2]; exact hm.1
  have hbd := hP2.build (PAfter.refl X _ F)
  rw [hz2] at hbd
  obtain ⟨_, _, _, c3, _, _⟩ := Blk.six h1.blk
  have f3 := h1.blk.free 3
  have hs := hX.short
  have hb0 : (a : Int) + 1 ≤ 1000000 := by omega
  rw [hn] at hM
  have HX := Lib.hid hX
  have HR := Lib.hid hR
  have HM := Lib.hid hM
  have HA2 := Lib.hid hA2
  have HB2 := Lib.hid hB2
  have HPos := Lib.hid hpos
  have HRest := Lib.hid hr
  have HNn := Lib.hid hnn
  have HN := Lib.hid hn
  have HZ2 := Lib.hid hz2
  obtain ⟨RS, hRS⟩ : ∃ RS, strF s.rest.length [] t = RS := ⟨_, rfl⟩
  have HRS := Lib.hid hRS
  have HRR : Hid (R = txtR X.lim s RS) := by
    show R = _
    rw [← hR, ← hRS, textG_eq, show s.rest.tail = t by rw [hr]; rfl]
  have hfu : t.length + 1 = s.rest.length := by rw [hr]; simp
  have HBd := Lib.hid hbd
  have HFu := Lib.hid hfu
  clear h h1 hR hpos hnn hat hd hle hm hM hA2 hB2 hz2 hP2 hbd hX hs hRS hfu hr
  cases t with
  | nil =>
    have hR2 : R = .err 5 0 s.ob s.tb := by
      rw [HRR.out, ← HRS.out, ← HFu.out]
      rfl
    subst hR2
    have HT := Lib.hid (HBd.out.ps.takeEnd HX.out rfl)
    go_enter Tryz.func128, Tryz.ntmps128
    go_wp2_with fail
    rw [← hw2]
    try rw [HZ2.out]
    refine HT.out.mono ?_
    rintro e w4 ⟨rfl, rfl⟩
    clear hw2 hn c3 f3
    unfold faultE
    go_wp2_with fail
    exact ⟨rfl, rfl, F, HBd.out.ps.ht, HA2.out.trans HBd.out.aft⟩
  | cons c t =>
    have HT := Lib.hid (HBd.out.ps.take HX.out rfl)
    have H0 := Lib.hid (fun w4 (hP : PS X w4 (a + 1 + 1) op ⟨t, s.ob, s.tb⟩ F) (hA : PAfter X (w2.alloc (.cells #[.pointer none, .slice none 0 0] 171)) w4 F F) => show StrAt X w2 w4 op (n + 1) s F RS (.int .i64 c) from
      ⟨c, [], t, a + 1 + 1, s.rest.length, rfl, HBd.out.act hP hA, HRS.out, HX.out.chars c (List.mem_of_mem_drop (by rw [HBd.out.ps.at_]; simp)), by simp, by have := HFu.out; simp at this; omega, by have := HNn.out; simp at this ⊢; omega, by omega⟩)
    go_enter Tryz.func128, Tryz.ntmps128
    go_wp2_with fail
    rw [← hw2]
    try rw [HZ2.out]
    refine HT.out.mono ?_
    rintro e w4 ⟨rfl, hP4, hA4⟩
    have H04 := Lib.hid (H0.out _ hP4 hA4)
    clear hP4 hA4 hw2 hn c3 f3
    go_wp2_with fail
    try rw [HZ2.out]
    go_loopw [5] (fun u wr => StrAt X w2 wr op (n + 1) s F RS u) (fun _ wr => X.l.length - atOf wr X.p)
    case atStart => exact H04.out
    case round =>
      obtain ⟨c, acc, r, a1, j, rfl, hB, hst, hc, hacc, hj, hlen, ha1⟩ := hrel
      have hs := HX.out.short
      have hal : acc.length ≤ 1000000 := by omega
      have HP1 := Lib.hid hB.ps.atIs
      obtain ⟨j, rfl⟩ : ∃ i, j = i + 1 := ⟨j - 1, by omega⟩
      rw [strF] at hst
      by_cases e34 : c = 34
      · rw [if_pos e34] at hst
        subst e34
        subst hst
        have HR2 := Lib.hid HRR.out
        have hlen4 := enc_len4 acc
        obtain ⟨S, hS⟩ : ∃ S, strOf (enc acc) = S := ⟨_, rfl⟩
        have hsz : S.size ≤ 4611686018427387904 := by rw [← hS, strOf_size]; omega
        have hRR : R = if (textO s.ob X.lim S).2.1 = 0 then .ok (textO s.ob X.lim S).1 ⟨r, (textO s.ob X.lim S).2.2, s.tb⟩ else .err (textO s.ob X.lim S).2.1 s.rest.length (textO s.ob X.lim S).2.2 s.tb := by
          rw [HR2.out, ← hS]
          rfl
        obtain ⟨z, hz⟩ : ∃ z, (textO s.ob X.lim S).1 = z := ⟨_, rfl⟩
        obtain ⟨c, hc⟩ : ∃ c, (textO s.ob X.lim S).2.1 = c := ⟨_, rfl⟩
        obtain ⟨ob, hob⟩ : ∃ o, (textO s.ob X.lim S).2.2 = o := ⟨_, rfl⟩
        rw [hz, hc, hob] at hRR
        have HRF := Lib.hid hRR
        have hbox : ∀ W, PS X W a1 op ⟨r, s.ob, s.tb⟩ F ∧ PAfter X w2 W F F → TxtSt X w W a1 op n ⟨r, s.ob, s.tb⟩ F F := fun W hh => ⟨hh.1, HA2.out.trans hh.2, (hh.2.blk HB2.out HM.out.f HM.out.p).1, HM.out⟩
        have hstr : ∀ W, Below wr.heap.size wr W → Calls Tryz.prog 175 #[.pointer (some ⟨n + 1, 0, none⟩)] W fun e w' => e = .returned (.string S) ∧ TxtSt X w w' a1 op n ⟨r, s.ob, s.tb⟩ F F ∧ ∀ k cs, k ≠ n + 1 → Blk W k cs 28 → Blk w' k cs 28 := fun W hW => by
          refine ((hB.later hW).stringK).mono ?_
          rintro e w' ⟨he, hP, hA, hK⟩
          rw [hS] at he
          exact ⟨he, hbox w' ⟨hP, hA⟩, hK⟩
        have htxt : ∀ W, TxtSt X w W a1 op n ⟨r, s.ob, s.tb⟩ F F → Calls Tryz.prog 174 #[ptr X.hp, .string S] W fun e w' => e = .returned (.tuple #[wd z, .int .i64 c]) ∧ ∃ F', TxtSt X w w' a1 op n ⟨r, ob, s.tb⟩ F F' ∧ PAfter X W w' F F' := fun W hW => by
          have := hW.ps.ht.text S hsz (hW.ps.sys HX.out).tabs
          rw [hz, hc, hob] at this
          refine this.mono fun e w' ⟨he, hok⟩ => ⟨he, ?_⟩
          obtain ⟨F', hP, hA⟩ := hW.ps.ofHT HX.out hok
          have hb := hA.blk hW.box hW.mine.f hW.mine.p
          exact ⟨F', ⟨hP, hW.aft.trans hA, hb.1, hW.mine.later hA hW.box.lt⟩, hA⟩
        have hsP : ∀ W, Below wr.heap.size wr W → W.cell? ⟨X.p, 0, none⟩ = some (.pointer (some ⟨X.hp, 0, none⟩)) := fun W hW => (hB.ps.later hW).blk.cell 0 _ rfl
        have hwn : n + 1 < wr.heap.size := by
          rcases hB.bd with ⟨_, v, hb, _⟩ | ⟨_, v, hb, _⟩
          · exact (Array.getElem?_eq_some_iff.1 hb).1
          · exact (Array.getElem?_eq_some_iff.1 hb).1
        have hfr : ∀ k, wr.heap.size ≤ k → Mine X w F k := fun k hk => ⟨hB.ps.ht.fresh hk, by have := hB.ps.blk.lt; omega, by have := hB.ps.row.lt; omega, by have := hB.ps.map.lt; omega, Nat.le_trans hB.ps.below.size hk⟩
        have HStr := Lib.hid hstr
        have HTxt := Lib.hid htxt
        have HSP := Lib.hid hsP
        have HWn := Lib.hid hwn
        have HFr := Lib.hid hfr
        have HBx := Lib.hid (bel_drew (w := wr))
        have HBy := Lib.hid ((bel_box wr wbox0).drew)
        have s0 : wr.cell? ⟨X.p, 0, none⟩ = some (.pointer (some ⟨X.hp, 0, none⟩)) := hB.ps.blk.cell 0 _ rfl
        clear hB hacc hj hlen ha1 hs hal hRR hS hsz hz hc hob hbox hstr htxt hsP hwn hfr hlen4
        go_wp2_with fail
        go_region_held3 (fun w' => w'.cell? ⟨X.p, 0, none⟩ = some (.pointer (some ⟨X.hp, 0, none⟩)))
          (first | exact HQ7.out.ps.blk.cell 0 _ rfl | exact (HQ7.out.put HM7.out HNe.out HLe.out _ _).ps.blk.cell 0 _ rfl | exact (HQ7.out.later (bel_box _ _)).ps.blk.cell 0 _ rfl | exact HQ5.out.ps.blk.cell 0 _ rfl | exact (HQ5.out.later (bel_box _ _)).ps.blk.cell 0 _ rfl | exact HSP.out _ HBx.out | exact HSP.out _ HBy.out)
          (first
            | (go_at_call 175; refine (HStr.out _ HBx.out).mono ?_; rintro e w5 ⟨rfl, hq, _⟩; have HQ5 := Lib.hid hq; clear hq)
            | (go_at_call 175; refine (HStr.out _ HBy.out).mono ?_; rintro e w5 ⟨rfl, hq, hk⟩; have HK5 := Lib.hid (hk wr.heap.size _ (by have := HWn.out; omega) (Blk.new wr _ _)); have HQ5 := Lib.hid hq; clear hq hk)
            | (go_at_call 174; refine (HTxt.out _ HQ5.out).mono ?_; rintro e w7 ⟨rfl, F', hq, ha7⟩; first
                | (have hb7 := ha7.blk HK5.out (HFr.out _ (Nat.le_refl _)).f (HFr.out _ (Nat.le_refl _)).p; have HM7 := Lib.hid ((HFr.out _ (Nat.le_refl _)).later ha7 HK5.out.lt); have HNe := Lib.hid (show n ≠ wr.heap.size from by have := HWn.out; omega); have HLe := Lib.hid (show w.heap.size ≤ wr.heap.size from by have := HWn.out; have := HN.out; omega); obtain ⟨t0, t1, t2, t3⟩ := hb7.1.two; have HB7 := Lib.hid hb7.1; have HQ7 := Lib.hid hq; clear hq ha7 hb7)
                | (have HQ7 := Lib.hid hq; clear hq ha7))
            | (go_at_call 174; refine (HTxt.out _ (HQ5.out.later (bel_box _ wbox0))).mono ?_; rintro e w7 ⟨rfl, F', hq, ha7⟩; have hm5 := HQ5.out.ps.mine (Nat.le_refl _); have hm6 : Mine X w F w5.heap.size := ⟨hm5.f, hm5.p, hm5.g, hm5.m, hm5.low⟩; have hb7 := ha7.blk (Blk.new w5 _ _) hm5.f hm5.p; have HM7 := Lib.hid (hm6.later ha7 (by simp)); have HNe := Lib.hid (show n ≠ w5.heap.size from Nat.ne_of_lt HQ5.out.box.lt); have HLe := Lib.hid (show w.heap.size ≤ w5.heap.size from HQ5.out.aft.keeps.size); obtain ⟨t0, t1, t2, t3⟩ := hb7.1.two; have HB7 := Lib.hid hb7.1; have HQ7 := Lib.hid hq; clear hq ha7 hb7 hm5 hm6))
        all_goals (
          first
            | (have hq8 := HQ7.out.put HM7.out HNe.out HLe.out (.int .i64 z.1) (.int .i64 z.2)
               first
                 | (have hb8 : Blk ((w7.setCell ⟨wr.heap.size, 0, none⟩ (.int .i64 z.1)).setCell ⟨wr.heap.size, 1, none⟩ (.int .i64 z.2)) wr.heap.size #[.int .i64 z.1, .int .i64 z.2] 28 := by simpa using (HB7.out.set 0 (.int .i64 z.1)).set 1 (.int .i64 z.2)
                    obtain ⟨W8, hW8⟩ : ∃ W, (w7.setCell ⟨wr.heap.size, 0, none⟩ (.int .i64 z.1)).setCell ⟨wr.heap.size, 1, none⟩ (.int .i64 z.2) = W := ⟨_, rfl⟩
                    rw [hW8] at hq8 hb8 ⊢
                    obtain ⟨b8, hb8e⟩ : ∃ b, wr.heap.size = b := ⟨_, rfl⟩
                    rw [hb8e] at hb8 ⊢)
                 | (have hb8 : Blk ((w7.setCell ⟨w5.heap.size, 0, none⟩ (.int .i64 z.1)).setCell ⟨w5.heap.size, 1, none⟩ (.int .i64 z.2)) w5.heap.size #[.int .i64 z.1, .int .i64 z.2] 28 := by simpa using (HB7.out.set 0 (.int .i64 z.1)).set 1 (.int .i64 z.2)
                    obtain ⟨W8, hW8⟩ : ∃ W, (w7.setCell ⟨w5.heap.size, 0, none⟩ (.int .i64 z.1)).setCell ⟨w5.heap.size, 1, none⟩ (.int .i64 z.2) = W := ⟨_, rfl⟩
                    rw [hW8] at hq8 hb8 ⊢
                    obtain ⟨b8, hb8e⟩ : ∃ b, w5.heap.size = b := ⟨_, rfl⟩
                    rw [hb8e] at hb8 ⊢)
               clear t0 t1 t2 t3)
            | (have hq8 := HQ7.out.later (bel_box _ (.cells #[.int .i64 z.1, .int .i64 z.2] 28))
               have hb8 := Blk.new w7 #[.int .i64 z.1, .int .i64 z.2] 28
               obtain ⟨W8, hW8⟩ : ∃ W, w7.alloc (.cells #[.int .i64 z.1, .int .i64 z.2] 28) = W := ⟨_, rfl⟩
               rw [hW8] at hq8 hb8 ⊢
               obtain ⟨b8, hb8e⟩ : ∃ b, w7.heap.size = b := ⟨_, rfl⟩
               rw [hb8e] at hb8 ⊢)
          clear hW8 hb8e s0
          obtain ⟨d0, d1, _, _⟩ := hb8.two
          obtain ⟨g0, g1, g2, g3⟩ := hq8.box.two
          have HQ8 := Lib.hid hq8
          clear hq8 hb8
          by_cases h0 : c = 0
          · subst h0
            have HRG : Hid (R = .ok z ⟨r, ob, s.tb⟩) := HRF.out.trans (if_pos rfl)
            go_wp2_with (first
              | (go_at_call 120; refine (check_ok _ _).mono ?_; rintro e w9 ⟨rfl, rfl⟩))
            have hf := HQ8.out.ps.put2 HQ8.out.mine HQ8.out.aft (Nat.le_of_eq HN.out) (.int .i64 z.1) (.int .i64 z.2)
            rw [HRG.out]
            refine bodyPost_ret (v := wd z) (by simp [results, Tryz.results128, go_sem, g0, g1, g2, g3]) rfl ⟨a1, F', rfl, hf.1, hf.2⟩
          · have HRG : Hid (R = .err c s.rest.length ob s.tb) := HRF.out.trans (if_neg h0)
            have H0n := Lib.hid h0
            clear h0
            go_wp2_with (first
              | (go_at_call 120; refine (check_err c H0n.out a _).mono ?_; rintro e w9 ⟨rfl, rfl⟩; unfold faultE))
            refine ⟨rfl, ?_⟩
            rw [HRG.out]
            exact ⟨by rw [HPos.out]; rfl, F', HQ8.out.ps.ht, HQ8.out.aft⟩)
      · rw [if_neg e34] at hst
        have n34 : (c != 34) = true := by simpa using e34
        by_cases e92 : c = 92
        · rw [if_pos e92] at hst
          subst e92
          have hesc := hB.ps.textEscape HX.out ha1
          simp only at hesc
          cases hq : escF r with
          | bad m =>
            rw [hq] at hst hesc
            simp only at hst
            subst hst
            have HE := Lib.hid hesc
            have HB := Lib.hid hB
            have HR2 := Lib.hid HRR.out
            clear hB hesc hq hacc hj hlen ha1 hs hal e34 HRR HRS
            go_wp2_with fail
            refine HE.out.mono ?_
            rintro e w5 ⟨rfl, hH, hA⟩
            have HH := Lib.hid (And.intro hH hA)
            clear hH hA
            unfold faultE
            go_wp2_with fail
            refine ⟨rfl, ?_⟩
            rw [HR2.out]
            exact ⟨rfl, F, HH.out.1, (HA2.out.trans HB.out.aft).trans HH.out.2⟩
          | ok o r2 =>
            rw [hq] at hst hesc
            simp only at hst
            have hlt := (escF_suf hq).length_le
            have hr2 : r2.length + 1 ≤ j := by
              have h1 : r2.length < r.length := by
                cases r with
                | nil => rw [escF] at hq; cases hq
                | cons d r =>
                  have h2 := hq
                  rw [escF] at h2
                  have h3 : r2 <:+ r := by
                    split at h2
                    · cases h2; exact List.suffix_refl _
                    · split at h2
                      · cases h2; exact List.suffix_refl _
                      · split at h2
                        · split at h2
                          · rename_i he
                            cases h2
                            exact hexF_suf _ _ _ _ _ _ he
                          · cases h2
                        · split at h2
                          · cases h2; exact List.suffix_refl _
                          · cases h2
                  have := h3.length_le
                  simp
                  omega
              omega
            have hrC : ∀ x ∈ r, isC x := fun x hx => HX.out.chars x (List.mem_of_mem_drop (by rw [hB.ps.at_]; exact hx))
            have hoC : ∀ x, o = some x → isC x := fun x e => escF_isC hrC (by rw [hq, e])
            have HE := Lib.hid hesc
            have HB := Lib.hid hB
            have HLen := Lib.hid (And.intro hr2 (And.intro hlt (And.intro hlen hacc)))
            have HSt := Lib.hid hst
            cases o with
            | none =>
              cases r2 with
              | nil =>
                have hR2 : RS = .bad 0 := by
                  rw [← hst]
                  obtain ⟨i, rfl⟩ : ∃ i, j = i + 1 := ⟨j - 1, by simp at hr2; omega⟩
                  rfl
                subst hR2
                have HTE := Lib.hid (fun W a2 (hPW : PS X W a2 op ⟨[], s.ob, s.tb⟩ F) => hPW.takeEnd HX.out rfl)
                clear hB hesc hq hacc hj hlen ha1 hs hal e34 hst hlt hr2 hrC hoC
                go_wp2_with fail
                refine HE.out.mono ?_
                rintro e w5 ⟨rfl, a2, hP, hA⟩
                have HP := Lib.hid (And.intro hP hA)
                clear hP hA
                unfold retO
                go_wp2_with fail
                refine (HTE.out _ _ HP.out.1).mono ?_
                rintro e w6 ⟨rfl, rfl⟩
                unfold faultE
                go_wp2_with fail
                refine ⟨rfl, ?_⟩
                rw [HRR.out]
                exact ⟨rfl, F, HP.out.1.ht, (HA2.out.trans HB.out.aft).trans HP.out.2⟩
              | cons c2 r3 =>
                have hc2 : isC c2 := hrC c2 (by
                  have := escF_suf hq
                  exact this.subset (by simp))
                have HTk := Lib.hid (fun W a2 (hPW : PS X W a2 op ⟨c2 :: r3, s.ob, s.tb⟩ F) => hPW.take HX.out rfl)
                have HF := Lib.hid (fun W a2 (hPW : Bd X w2 W (a2 + 1) op (n + 1) (n + 1) ⟨r3, s.ob, s.tb⟩ F acc) => show StrAt X w2 W op (n + 1) s F RS (.int .i64 c2) from
                  ⟨c2, acc, r3, a2 + 1, j, rfl, hPW, by rw [← HSt.out]; simp, hc2, hacc, by have := HLen.out.1; simp at this; omega, by have := HLen.out.2; simp at this; omega, by omega⟩)
                clear hB hesc hq hacc hj hlen ha1 hs hal e34 hst hlt hr2 hrC hoC hc2
                go_wp2_with fail
                refine HE.out.mono ?_
                rintro e w5 ⟨rfl, a2, hP, hA⟩
                have HP := Lib.hid (And.intro hP hA)
                clear hP hA
                unfold retO
                go_wp2_with fail
                refine (HTk.out _ _ HP.out.1).mono ?_
                rintro e w6 ⟨rfl, hP6, hA6⟩
                have HP6 := Lib.hid (HB.out.act hP6 (HP.out.2.trans hA6))
                clear hP6 hA6
                go_wp2_with fail
                go_roundw
                case rel => exact HF.out _ _ HP6.out
                case measure =>
                  have h1 := HP1.out
                  have h2 := HP6.out.ps.atIs
                  have h3 := HP6.out.ps.n
                  have h4 := HB.out.ps.n
                  have h5 := HLen.out.2.1
                  rw [h1, h2]
                  simp at h3 h4 h5
                  omega
            | some x =>
              have hxC := hoC x rfl
              obtain ⟨x0, x1, x2⟩ := hxC
              have nm1 : (x != -1) = true := by simp; omega
              have HWr := Lib.hid (fun W a2 (hPW : Bd X w2 W a2 op (n + 1) (n + 1) ⟨r2, s.ob, s.tb⟩ F acc) => hPW.write x ⟨x0, x1, x2⟩ hal)
              have HaC : Hid (∀ y ∈ acc ++ [x], isC y) := fun y hy => by
                rcases List.mem_append.1 hy with hy | hy
                · exact hacc y hy
                · simp at hy; subst hy; exact ⟨x0, x1, x2⟩
              cases r2 with
              | nil =>
                have hR2 : RS = .bad 0 := by
                  rw [← hst]
                  obtain ⟨i, rfl⟩ : ∃ i, j = i + 1 := ⟨j - 1, by simp at hr2; omega⟩
                  rfl
                subst hR2
                have HTE := Lib.hid (fun W a2 (hPW : PS X W a2 op ⟨[], s.ob, s.tb⟩ F) => hPW.takeEnd HX.out rfl)
                clear hB hesc hq hacc hj hlen ha1 hs hal e34 hst hlt hr2 hrC hoC x2
                go_wp2_with fail
                refine HE.out.mono ?_
                rintro e w5 ⟨rfl, a2, hP, hA⟩
                have HP := Lib.hid (HB.out.act hP hA)
                clear hP hA
                unfold retO
                go_wp2_with fail
                refine (HWr.out _ _ HP.out).mono ?_
                rintro e w6 ⟨⟨v, rfl⟩, hB6⟩
                have HB6 := Lib.hid hB6
                clear hB6
                go_wp2_with fail
                refine (HTE.out _ _ HB6.out.ps).mono ?_
                rintro e w7 ⟨rfl, rfl⟩
                unfold faultE
                go_wp2_with fail
                refine ⟨rfl, ?_⟩
                rw [HRR.out]
                exact ⟨rfl, F, HB6.out.ps.ht, HA2.out.trans HB6.out.aft⟩
              | cons c2 r3 =>
                have hc2 : isC c2 := hrC c2 (by
                  have := escF_suf hq
                  exact this.subset (by simp))
                have HTk := Lib.hid (fun W a2 (hPW : PS X W a2 op ⟨c2 :: r3, s.ob, s.tb⟩ F) => hPW.take HX.out rfl)
                have HF := Lib.hid (fun W a2 (hPW : Bd X w2 W (a2 + 1) op (n + 1) (n + 1) ⟨r3, s.ob, s.tb⟩ F (acc ++ [x])) => show StrAt X w2 W op (n + 1) s F RS (.int .i64 c2) from
                  ⟨c2, acc ++ [x], r3, a2 + 1, j, rfl, hPW, by rw [← HSt.out]; simp, hc2, HaC.out, by have := HLen.out.1; simp at this; omega, by have h1 := HLen.out.1; have h2 := HLen.out.2; simp at h1 h2 ⊢; omega, by omega⟩)
                clear hB hesc hq hacc hj hlen ha1 hs hal e34 hst hlt hr2 hrC hoC hc2 x2
                go_wp2_with fail
                refine HE.out.mono ?_
                rintro e w5 ⟨rfl, a2, hP, hA⟩
                have HP := Lib.hid (HB.out.act hP hA)
                clear hP hA
                unfold retO
                go_wp2_with fail
                refine (HWr.out _ _ HP.out).mono ?_
                rintro e w6 ⟨⟨v, rfl⟩, hB6⟩
                have HB6 := Lib.hid hB6
                clear hB6
                go_wp2_with fail
                refine (HTk.out _ _ HB6.out.ps).mono ?_
                rintro e w7 ⟨rfl, hP7, hA7⟩
                have HP7 := Lib.hid (HB6.out.act hP7 hA7)
                clear hP7 hA7
                go_wp2_with fail
                go_roundw
                case rel => exact HF.out _ _ HP7.out
                case measure =>
                  have h1 := HP1.out
                  have h2 := HP7.out.ps.atIs
                  have h3 := HP7.out.ps.n
                  have h4 := HB.out.ps.n
                  have h5 := HLen.out.2.1
                  rw [h1, h2]
                  simp at h3 h4 h5
                  omega
        · rw [if_neg e92] at hst
          have n92 : (c == 92) = false := by simpa using e92
          obtain ⟨q0, q1, _⟩ := hc
          have nm1 : (c != -1) = true := by simp; omega
          have hcC : isC c := ⟨q0, q1, by assumption⟩
          have HWr := Lib.hid (hB.write c hcC hal)
          have HaC : Hid (∀ y ∈ acc ++ [c], isC y) := fun y hy => by
            rcases List.mem_append.1 hy with hy | hy
            · exact hacc y hy
            · simp at hy; subst hy; exact hcC
          have HSt := Lib.hid hst
          have HB := Lib.hid hB
          cases r with
          | nil =>
            have hR2 : RS = .bad 0 := by
              rw [← hst]
              cases j <;> rfl
            subst hR2
            have HTE := Lib.hid (fun W a2 (hPW : PS X W a2 op ⟨[], s.ob, s.tb⟩ F) => hPW.takeEnd HX.out rfl)
            clear hB hacc hj hlen ha1 hs hal e34 hst e92 hcC
            go_wp2_with fail
            refine HWr.out.mono ?_
            rintro e w6 ⟨⟨v, rfl⟩, hB6⟩
            have HB6 := Lib.hid hB6
            clear hB6
            go_wp2_with fail
            refine (HTE.out _ _ HB6.out.ps).mono ?_
            rintro e w7 ⟨rfl, rfl⟩
            unfold faultE
            go_wp2_with fail
            refine ⟨rfl, ?_⟩
            rw [HRR.out]
            exact ⟨rfl, F, HB6.out.ps.ht, HA2.out.trans HB6.out.aft⟩
          | cons c2 r3 =>
            have hc2 : isC c2 := HX.out.chars c2 (List.mem_of_mem_drop (by rw [hB.ps.at_]; simp))
            have HTk := Lib.hid (fun W a2 (hPW : PS X W a2 op ⟨c2 :: r3, s.ob, s.tb⟩ F) => hPW.take HX.out rfl)
            have HLen := Lib.hid (And.intro hj (And.intro hlen hal))
            have HF := Lib.hid (fun W a2 (hPW : Bd X w2 W (a2 + 1) op (n + 1) (n + 1) ⟨r3, s.ob, s.tb⟩ F (acc ++ [c])) => show StrAt X w2 W op (n + 1) s F RS (.int .i64 c2) from
              ⟨c2, acc ++ [c], r3, a2 + 1, j, rfl, hPW, HSt.out, hc2, HaC.out, by have := HLen.out.1; simp at this; omega, by have h2 := HLen.out.2; simp at h2 ⊢; omega, by omega⟩)
            clear hB hacc hj hlen ha1 hs hal e34 hst e92 hcC hc2
            go_wp2_with fail
            refine HWr.out.mono ?_
            rintro e w6 ⟨⟨v, rfl⟩, hB6⟩
            have HB6 := Lib.hid hB6
            clear hB6
            go_wp2_with fail
            refine (HTk.out _ _ HB6.out.ps).mono ?_
            rintro e w7 ⟨rfl, hP7, hA7⟩
            have HP7 := Lib.hid (HB6.out.act hP7 hA7)
            clear hP7 hA7
            go_wp2_with fail
            go_roundw
            case rel => exact HF.out _ _ HP7.out
            case measure =>
              have h1 := HP1.out
              have h2 := HP7.out.ps.atIs
              have h3 := HP7.out.ps.n
              have h4 := HB.out.ps.n
              rw [h1, h2]
              simp at h3 h4
              omega
end Go.Proofs.YtlibdhnlmekmhaaGreatDoor.Rd
end
