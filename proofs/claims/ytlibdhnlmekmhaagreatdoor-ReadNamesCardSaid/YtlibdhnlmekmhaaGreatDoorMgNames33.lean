/- The contract of textEscape. | The contract of text. -/
import Derived.Lib.OthersKept
import Derived.Test.YtlibdhnlmekmhaaGreatDoorMgNames32
/- The contract of textEscape. -/
section
namespace Go.Proofs.YtlibdhnlmekmhaaGreatDoor.Rd
set_option maxRecDepth 100000
open Go.RowKit Go.Lib
open Go.Proofs.YtlibdhnlmekmhaaGreatDoor.Own Go.Proofs.YtlibdhnlmekmhaaGreatDoor.Hp Go.Proofs.YtlibdhnlmekmhaaGreatDoor.Rep Go.Proofs.YtlibdhnlmekmhaaGreatDoor.Get Go.Proofs.YtlibdhnlmekmhaaGreatDoor.Utf Go.Proofs.YtlibdhnlmekmhaaGreatDoor.Chars

def retO (o : Option Int) : Ending := .returned (.int .i64 (o.getD (-1)))
set_option maxHeartbeats 1000000 in
theorem PS.textEscape {X : Fx} {w : World} {a op : Nat} {s : St} {F : Nat → Prop} (h : PS X w a op s F) (hX : X.Ok) (ha : 1 ≤ a) :
    Calls Tryz.prog 172 #[pptr X.p] w (OutS X w op s F retO (escF s.rest)) := by
  have HX := Lib.hid hX
  have HH := Lib.hid h
  obtain ⟨_, _, _, c3, _, _⟩ := Blk.six h.blk
  obtain ⟨b, rfl⟩ : ∃ b, a = b + 1 := ⟨a - 1, by omega⟩
  have hsub : ((b + 1 : Nat) : Int) - 1 = (b : Int) := by omega
  have hn := h.n
  have hs := hX.short
  have hb0 : (b : Int) + 1 ≤ 1000000 := by omega
  cases hr : s.rest with
  | nil =>
    have HT := Lib.hid (h.takeEnd hX hr)
    clear h hr hX hn hs
    go_enter Tryz.func172, Tryz.ntmps172
    go_wp2_with fail
    refine HT.out.mono ?_
    rintro e w2 ⟨rfl, rfl⟩
    unfold faultE
    go_wp2_with fail
    exact ⟨rfl, rfl, HH.out.ht, .refl _ _ _⟩
  | cons d r =>
    have HT := Lib.hid (h.take hX hr)
    rw [hr] at hn
    have HPos : Hid (b = X.l.length - (r.length + 2)) := by
      show _ = _
      simp at hn
      omega
    rw [escF]
    by_cases h1 : d = 92 ∨ d = 34
    · rw [if_pos h1]
      clear h hr hX hn hs
      rcases h1 with rfl | rfl
      · go_enter Tryz.func172, Tryz.ntmps172
        go_wp2_with fail
        refine HT.out.mono ?_
        rintro e w2 ⟨rfl, hP, hA⟩
        have HP := Lib.hid (And.intro hP hA)
        clear hP hA c3
        go_wp2_with fail
        go_ret
        exact ⟨rfl, _, HP.out⟩
      · go_enter Tryz.func172, Tryz.ntmps172
        go_wp2_with fail
        refine HT.out.mono ?_
        rintro e w2 ⟨rfl, hP, hA⟩
        have HP := Lib.hid (And.intro hP hA)
        clear hP hA c3
        go_wp2_with fail
        go_ret
        exact ⟨rfl, _, HP.out⟩
    · rw [if_neg h1]
      have n1 : (d == 92) = false := by rw [beq_eq_false_iff_ne]; exact fun e => h1 (.inl e)
      have n2 : (d == 34) = false := by rw [beq_eq_false_iff_ne]; exact fun e => h1 (.inr e)
      by_cases h10 : d = 10
      · rw [if_pos h10]
        subst h10
        clear h hr hX hn hs h1
        go_enter Tryz.func172, Tryz.ntmps172
        go_wp2_with fail
        refine HT.out.mono ?_
        rintro e w2 ⟨rfl, hP, hA⟩
        have HP := Lib.hid (And.intro hP hA)
        clear hP hA c3
        go_wp2_with fail
        go_ret
        exact ⟨rfl, _, HP.out⟩
      · rw [if_neg h10]
        have n3 : (d == 10) = false := by simpa using h10
        by_cases hx : d = 120
        · rw [if_pos hx]
          subst hx
          have hn2 := fun W (hW : PS X W (b + 1 + 1) op ⟨r, s.ob, s.tb⟩ F) => hW.numbered HX.out (r.length + 2) b HPos.out
          simp only at hn2
          cases hq : hexF (r.length + 2) 0 0 r with
          | ok n r2 =>
            rw [hq] at hn2
            have HN := Lib.hid hn2
            dsimp only
            clear h hr hX hn hs h1 h10 hn2 hq
            go_enter Tryz.func172, Tryz.ntmps172
            go_wp2_with fail
            refine HT.out.mono ?_
            rintro e w2 ⟨rfl, hP, hA⟩
            have HP := Lib.hid (And.intro hP hA)
            clear hP hA c3
            go_wp2_with fail
            refine (HN.out _ HP.out.1).mono ?_
            rintro e w3 ⟨rfl, a2, hP2, hA2⟩
            have HP2 := Lib.hid (And.intro hP2 hA2)
            clear hP2 hA2
            unfold retI
            go_wp2_with fail
            go_ret
            exact ⟨rfl, a2, HP2.out.1, HP.out.2.trans HP2.out.2⟩
          | bad m =>
            rw [hq] at hn2
            have HN := Lib.hid hn2
            dsimp only
            clear h hr hX hn hs h1 h10 hn2 hq
            go_enter Tryz.func172, Tryz.ntmps172
            go_wp2_with fail
            refine HT.out.mono ?_
            rintro e w2 ⟨rfl, hP, hA⟩
            have HP := Lib.hid (And.intro hP hA)
            clear hP hA c3
            go_wp2_with fail
            refine (HN.out _ HP.out.1).mono ?_
            rintro e w3 ⟨rfl, hP2, hA2⟩
            have HP2 := Lib.hid (And.intro hP2 hA2)
            clear hP2 hA2
            unfold faultE
            go_wp2_with fail
            exact ⟨rfl, rfl, HP2.out.1, HP.out.2.trans HP2.out.2⟩
        · rw [if_neg hx]
          have n4 : (d == 120) = false := by simpa using hx
          cases hc : ctlZ d with
          | some k =>
            have HC := Lib.hid (fun x W => control_yes d k hc x W)
            clear h hr hX hn hs h1 h10 hx hc
            go_enter Tryz.func172, Tryz.ntmps172
            go_wp2_with fail
            refine HT.out.mono ?_
            rintro e w2 ⟨rfl, hP, hA⟩
            have HP := Lib.hid (And.intro hP hA)
            clear hP hA c3
            go_wp2_with fail
            refine (HC.out _ _).mono ?_
            rintro e w3 ⟨rfl, rfl⟩
            go_wp2_with fail
            go_ret
            exact ⟨rfl, _, HP.out⟩
          | none =>
            have HC := Lib.hid (fun x W => control_no d hc x W)
            clear h hr hX hn hs h1 h10 hx hc
            go_enter Tryz.func172, Tryz.ntmps172
            go_wp2_with fail
            refine HT.out.mono ?_
            rintro e w2 ⟨rfl, hP, hA⟩
            have HP := Lib.hid (And.intro hP hA)
            clear hP hA c3
            go_wp2_with fail
            refine (HC.out b _).mono ?_
            rintro e w3 ⟨rfl, rfl⟩
            unfold faultE
            go_wp2_with fail
            exact ⟨rfl, by rw [HPos.out]; rfl, HP.out.1.ht, HP.out.2⟩
end Go.Proofs.YtlibdhnlmekmhaaGreatDoor.Rd
end

/- The contract of text. -/
section
namespace Go.Proofs.YtlibdhnlmekmhaaGreatDoor.Rd
set_option maxRecDepth 100000
open Go.RowKit Go.Lib
open Go.Proofs.YtlibdhnlmekmhaaGreatDoor.Own Go.Proofs.YtlibdhnlmekmhaaGreatDoor.Hp Go.Proofs.YtlibdhnlmekmhaaGreatDoor.Rep Go.Proofs.YtlibdhnlmekmhaaGreatDoor.Get Go.Proofs.YtlibdhnlmekmhaaGreatDoor.Utf Go.Proofs.YtlibdhnlmekmhaaGreatDoor.Chars Go.Proofs.YtlibdhnlmekmhaaGreatDoor.Make

theorem hexF_isZ (st : Nat) : ∀ (l : List Int) (k : Nat) (n x : Int) (r : List Int), hexF st k n l = .ok x r → isZ x = true
  | [], k, n, x, r, h => by rw [hexF] at h; cases h
  | c :: l, k, n, x, r, h => by
    rw [hexF] at h
    split at h
    · exact hexF_isZ st l _ _ x r h
    · split at h
      · cases h
      · rename_i hb
        cases h
        simp only [not_or, Bool.not_eq_false] at hb
        exact hb.2.2
theorem escF_isC {l : List Int} {x : Int} {r : List Int} (hl : ∀ c ∈ l, isC c) (h : escF l = .ok (some x) r) : isC x := by
  cases l with
  | nil => rw [escF] at h; cases h
  | cons d l =>
    have hd := hl d (by simp)
    rw [escF] at h
    split at h
    · cases h; exact hd
    · split at h
      · cases h
      · split at h
        · split at h
          · rename_i n r' he
            cases h
            exact (isZ_iff _).1 (hexF_isZ _ _ _ _ _ _ he)
          · cases h
        · split at h
          · rename_i k hk
            cases h
            unfold ctlZ at hk
            split at hk
            · cases hk; exact ⟨by omega, by omega, by omega⟩
            · split at hk
              · cases hk; exact ⟨by omega, by omega, by omega⟩
              · split at hk
                · cases hk; exact ⟨by omega, by omega, by omega⟩
                · cases hk
          · cases h
theorem Bd.later {X : Fx} {w wr w' : World} {a op B b : Nat} {s : St} {F : Nat → Prop} {acc : List Int} (h : Bd X w wr a op B b s F acc) (hb : Below wr.heap.size wr w') : Bd X w w' a op B b s F acc where
  ps := h.ps.later hb
  aft := h.aft.then_below hb
  low := h.low
  wB := h.wB
  Bw := Nat.le_trans h.Bw hb.size
  bd := builder_keeps h.bd (Keeps.of_below (F := fun _ => False) hb) fun _ hf => hf.elim
/-- String, and what it keeps besides. -/
theorem Bd.stringK {X : Fx} {w wr : World} {a op B b : Nat} {s : St} {F : Nat → Prop} {acc : List Int} (h : Bd X w wr a op B b s F acc) :
    Calls Tryz.prog 175 #[.pointer (some ⟨b, 0, none⟩)] wr fun e w' => e = .returned (.string (strOf (enc acc))) ∧ PS X w' a op s F ∧ PAfter X w w' F F ∧ ∀ k cs, k ≠ b → Blk wr k cs 28 → Blk w' k cs 28 := by
  refine (Tryz.Builder_String_any_k B b (enc acc) wr h.bd h.Bw).mono ?_
  rintro e w' ⟨rfl, _, hb, ho⟩
  exact ⟨rfl, h.ps.above h.low hb, h.aft.above h.wB hb, fun k cs hk hB => ho k _ hB (fun e => hk (Option.some.inj e)) (fun _ _ e => by cases e)⟩

/-- Between two rounds of text. -/
def StrAt (X : Fx) (w2 wr : World) (op b : Nat) (s : St) (F : Nat → Prop) (R : Sc (List Int)) (u : Value) : Prop :=
  ∃ (c : Int) (acc r : List Int) (a' j : Nat), u = .int .i64 c ∧ Bd X w2 wr a' op b b ⟨r, s.ob, s.tb⟩ F acc ∧ strF j acc (c :: r) = R ∧ isC c ∧ (∀ x ∈ acc, isC x) ∧ r.length + 1 ≤ j ∧ acc.length + r.length ≤ X.l.length ∧ 1 ≤ a'
end Go.Proofs.YtlibdhnlmekmhaaGreatDoor.Rd
end
