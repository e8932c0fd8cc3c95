/- The contract of prefixed. | A row of words beside a parser. | Numerals: their characters, their bytes, and what strconv.Atoi and strings.Trim make of them. -/
import Derived.LoopTactic
import Derived.Deep.RegionLaw
import Derived.Lib.AtoiAllCases
import Derived.Lib.SlTrimSet
import Derived.Test.YtlibdhnlmekmhaaGreatDoorMgNames04
import Derived.Test.YtlibdhnlmekmhaaGreatDoorMgNames18
import Derived.Test.YtlibdhnlmekmhaaGreatDoorMgNames22
/- The contract of prefixed. -/
section
namespace Go.Proofs.YtlibdhnlmekmhaaGreatDoor.Rd
set_option maxRecDepth 100000
open Go.RowKit
open Go.Proofs.YtlibdhnlmekmhaaGreatDoor.Own Go.Proofs.YtlibdhnlmekmhaaGreatDoor.Hp Go.Proofs.YtlibdhnlmekmhaaGreatDoor.Rep Go.Proofs.YtlibdhnlmekmhaaGreatDoor.Get Go.Proofs.YtlibdhnlmekmhaaGreatDoor.Add Go.Proofs.YtlibdhnlmekmhaaGreatDoor.Make Go.Proofs.YtlibdhnlmekmhaaGreatDoor.Utf Go.Proofs.YtlibdhnlmekmhaaGreatDoor.Strs

/-- The heap is not too full. -/
def NF {α : Type} : Res α → Prop
  | .ok _ _ => True
  | .err c _ _ _ => c ≠ 7
/-- A method answers as the plain reader where at most N characters are left. -/
def Runs {α : Type} (X : Fx) (fn : FuncId) (o N : Nat) (ret : α → Ending → World → (Nat → Prop) → Prop) (G : St → Res α) : Prop :=
  ∀ (w : World) (a : Nat) (s : St) (F : Nat → Prop), PS X w a o s F → s.rest.length ≤ N → NF (G s) → Calls Tryz.prog fn #[pptr X.p] w (Out X w o F ret (G s))

set_option maxHeartbeats 2000000 in
theorem PS.prefixed {X : Fx} {w : World} {a op : Nat} {s : St} {F : Nat → Prop} (h : PS X w a op s F) (hX : X.Ok) (n : Int) (len : Nat) (hlen : 1 ≤ len) (hle : len ≤ s.rest.length)
    {G : St → Res Wd} (hG : Runs X 68 (op + 1) (s.rest.length - 1) retW G) (hnf : NF (prefG X.lim G op n len s)) :
    Calls Tryz.prog 168 #[pptr X.p, .int .i64 n, .int .i64 (len : Int)] w (Out X w op F retW (prefG X.lim G op n len s)) := by
  have h1 := h.alloc wbox0
  have hM := h.mine (Nat.le_refl _)
  have hA1 : PAfter X w (w.alloc wbox0) F F := .of_below (bel_box _ _)
  obtain ⟨r, hr⟩ : ∃ r, w.heap.size = r := ⟨_, rfl⟩
  have hB1 : Blk (w.alloc wbox0) r #[.int .i64 0, .int .i64 0] 28 := by rw [← hr]; exact Blk.new w _ _
  rw [hr] at hM
  have HR := Lib.hid hr
  by_cases ho : op = 200
  · rw [show prefG X.lim G op n len s = .err 12 s.rest.length s.ob s.tb from by unfold prefG; rw [if_pos ho]]
    have HO := Lib.hid (h1.openFull ho (len : Int))
    have HH := Lib.hid (And.intro h1.ht hA1)
    clear h h1 hM hA1 hB1 ho hnf hG hr hle hlen
    go_enter Tryz.func168, Tryz.ntmps168
    go_wp2_with fail
    refine HO.out.mono ?_
    rintro e w2 ⟨rfl, rfl⟩
    unfold faultE
    go_wp2_with fail
    exact ⟨rfl, rfl, F, HH.out.1, HH.out.2⟩
  have hop := h.opl
  have hpos := h.pos
  unfold prefG at hnf ⊢
  rw [if_neg ho] at hnf ⊢
  have HO := Lib.hid (h1.open hX ho len hle)
  have hGG : ∀ W a1, PS X W a1 (op + 1) ⟨s.rest.drop len, s.ob, s.tb⟩ F → NF (G ⟨s.rest.drop len, s.ob, s.tb⟩) → Calls Tryz.prog 68 #[pptr X.p] W (Out X W (op + 1) F retW (G ⟨s.rest.drop len, s.ob, s.tb⟩)) := fun W a1 hP hn => hG W a1 _ F hP (by simp; omega) hn
  have HX := Lib.hid hX
  have hz1 : ((op + 1 : Nat) : Int) ≤ 200 := by omega
  have hz2 : 1 ≤ ((op + 1 : Nat) : Int) := by omega
  have HZ : Hid (((op + 1 : Nat) : Int) - 1 = (op : Int)) := by show _ - _ = _; omega
  have HOp := Lib.hid hop
  have HPo := Lib.hid hpos
  have HM := Lib.hid hM
  have HA1 := Lib.hid hA1
  have HB1 := Lib.hid hB1
  cases hq : G ⟨s.rest.drop len, s.ob, s.tb⟩ with
  | err c m ob tb =>
    rw [hq] at hnf hGG
    have HG := Lib.hid fun W a1 hP => hGG W a1 hP hnf
    dsimp only
    clear h h1 hM hA1 hB1 ho hnf hG hr hle hlen hGG hq hop hpos hz1 hz2
    go_enter Tryz.func168, Tryz.ntmps168
    go_wp2_with fail
    refine HO.out.mono ?_
    rintro e w2 ⟨rfl, hP, hA⟩
    have HP := Lib.hid hP
    have HA := Lib.hid hA
    clear hP hA
    go_wp2_with fail
    refine (HG.out _ _ HP.out).mono ?_
    rintro e w3 ⟨rfl, F', hH, hA⟩
    have HH := Lib.hid (And.intro hH (HA1.out.trans (HA.out.trans hA)))
    clear hH hA
    unfold faultE
    go_wp2_with fail
    exact ⟨rfl, rfl, F', HH.out.1, HH.out.2⟩
  | ok x s2 =>
    rw [hq] at hnf hGG
    have HG := Lib.hid fun W a1 hP => hGG W a1 hP trivial
    dsimp only at hnf ⊢
    cases hq2 : consG X.lim s s2 x (1, 0) with
    | err c m ob tb =>
      rw [hq2] at hnf
      have HC : Hid (∀ W a1 F1, PS X W a1 (op + 1) s2 F1 → Calls Tryz.prog 166 #[pptr X.p, wd x, wd (1, 0), .int .i64 (a : Int)] W (Out X W (op + 1) F1 retW (.err c m ob tb))) := fun W a1 F1 hP => by
        have := hP.cons (s0 := s) HX.out x (1, 0) a hpos.symm
        rw [hq2] at this
        exact this
      clear h h1 hM hA1 hB1 ho hnf hG hr hle hlen hGG hq hop hpos hz1 hz2 hq2
      go_enter Tryz.func168, Tryz.ntmps168
      go_wp2_with fail
      refine HO.out.mono ?_
      rintro e w2 ⟨rfl, hP, hA⟩
      have HP := Lib.hid hP
      have HA := Lib.hid hA
      clear hP hA
      go_wp2_with fail
      refine (HG.out _ _ HP.out).mono ?_
      rintro e w3 ⟨a3, F3, rfl, hP, hA⟩
      have HP3 := Lib.hid hP
      have HA3 := Lib.hid hA
      clear hP hA
      go_wp2_with fail
      refine (symbol_any 0 _).mono ?_
      rintro e w4 ⟨rfl, hb⟩
      have HP4 := Lib.hid (HP3.out.later hb)
      have HA4 := Lib.hid (HA3.out.then_below hb)
      clear hb
      go_wp2_with fail
      refine (HC.out _ _ _ HP4.out).mono ?_
      rintro e w5 ⟨rfl, F', hH, hA⟩
      have HH := Lib.hid (And.intro hH (HA1.out.trans (HA.out.trans (HA4.out.trans hA))))
      clear hH hA
      unfold faultE
      go_wp2_with fail
      exact ⟨rfl, rfl, F', HH.out.1, HH.out.2⟩
    | ok y s3 =>
      have HC : Hid (∀ W a1 F1, PS X W a1 (op + 1) s2 F1 → Calls Tryz.prog 166 #[pptr X.p, wd x, wd (1, 0), .int .i64 (a : Int)] W (Out X W (op + 1) F1 retW (.ok y s3))) := fun W a1 F1 hP => by
        have := hP.cons (s0 := s) HX.out x (1, 0) a hpos.symm
        rw [hq2] at this
        exact this
      dsimp only
      obtain ⟨Q, hQ⟩ : ∃ Q, consG X.lim s s3 (1, n) y = Q := ⟨_, rfl⟩
      have HC2 : Hid (∀ W a1 F1, PS X W a1 op s3 F1 → Calls Tryz.prog 166 #[pptr X.p, wd (1, n), wd y, .int .i64 (a : Int)] W (Out X W op F1 retW Q)) := fun W a1 F1 hP => by
        have := hP.cons (s0 := s) HX.out (1, n) y a hpos.symm
        rw [hQ] at this
        exact this
      rw [hQ]
      clear h h1 hM hA1 hB1 ho hnf hG hr hle hlen hGG hq hop hpos hq2 hQ
      go_enter Tryz.func168, Tryz.ntmps168
      go_wp2_with fail
      refine HO.out.mono ?_
      rintro e w2 ⟨rfl, hP, hA⟩
      have HP := Lib.hid hP
      have HA := Lib.hid hA
      clear hP hA
      go_wp2_with fail
      refine (HG.out _ _ HP.out).mono ?_
      rintro e w3 ⟨a3, F3, rfl, hP, hA⟩
      have HP3 := Lib.hid hP
      have HA3 := Lib.hid hA
      clear hP hA
      go_wp2_with fail
      refine (symbol_any 0 _).mono ?_
      rintro e w4 ⟨rfl, hb⟩
      have HP4 := Lib.hid (HP3.out.later hb)
      have HA4 := Lib.hid (HA3.out.then_below hb)
      clear hb
      go_wp2_with fail
      refine (HC.out _ _ _ HP4.out).mono ?_
      rintro e w5 ⟨a5, F5, rfl, hP, hA⟩
      have hAA : PAfter X w w5 F F5 := HA1.out.trans (HA.out.trans (HA4.out.trans hA))
      have hB5 := ((HA.out.trans (HA4.out.trans hA)).blk HB1.out HM.out.f HM.out.p)
      have hM5 : Mine X w F5 r := HM.out.later (HA.out.trans (HA4.out.trans hA)) HB1.out.lt
      have HM5 := Lib.hid hM5
      have hP6 := hP.alloc (.cells #[.int .i64 y.1, .int .i64 y.2] 28)
      have hN := hP6.nest HX.out op HOp.out (.int .i64 (((op + 1 : Nat) : Int) - 1)) (by rw [HZ.out])
      have hm8 := hP.mine (Nat.le_refl _)
      have hB8 := Blk.new w5 #[.int .i64 y.1, .int .i64 y.2] 28
      obtain ⟨b8, hb8⟩ : ∃ b, w5.heap.size = b := ⟨_, rfl⟩
      obtain ⟨W5, hW5⟩ : ∃ W, w5.alloc (.cells #[.int .i64 y.1, .int .i64 y.2] 28) = W := ⟨_, rfl⟩
      have hbw5 : Below w5.heap.size w5 W5 := by rw [← hW5]; exact bel_box _ _
      rw [hb8] at hB8 hm8
      rw [hW5] at hN hP6 hB8
      obtain ⟨W6, hW6⟩ : ∃ W, W5.setCell ⟨X.p, 4, none⟩ (.int .i64 (((op + 1 : Nat) : Int) - 1)) = W := ⟨_, rfl⟩
      rw [hW6] at hN
      obtain ⟨hP7, hA7⟩ := hN
      have hB8' := (hA7.blk hB8 hm8.f hm8.p).1
      have hBr := (hA7.blk (hB5.1.below hbw5) hB5.2 HM.out.p).1
      have hA8 := (hAA.then_below hbw5).trans hA7
      obtain ⟨_, _, _, _, c4, _⟩ := Blk.six hP6.blk
      have f4 := hP6.blk.free 4
      obtain ⟨z, hz⟩ : ∃ z : Int, ((op + 1 : Nat) : Int) = z := ⟨_, rfl⟩
      rw [hz] at c4 hz1 hz2 hW6
      have HP7 := Lib.hid hP7
      have HA8 := Lib.hid hA8
      have HB8 := Lib.hid hB8'
      have HBr := Lib.hid hBr
      clear hP hA hAA hB5 hP6 hm8 hB8 hbw5 hP7 hA7 hB8' hBr hA8 hM5
      go_wp2_with fail
      rw [HR.out]
      obtain ⟨t0, t1, _, _⟩ := HB8.out.two
      clear hW5 hb8 hz hW6 c4 f4 hz1 hz2
      cases Q with
      | err c m ob tb =>
        go_region_with (first
          | (go_at_call 194; refine (symbol_any n _).mono ?_; rintro e w7 ⟨rfl, hb0⟩; have hb := (bel_drew (w := W6)).trans hb0; clear hb0; have HBw := Lib.hid hb; obtain ⟨t2, t3, _, _⟩ := (HB8.out.below hb).two; clear hb)
          | (go_at_call 166; refine (HC2.out _ _ _ (HP7.out.later HBw.out)).mono ?_; rintro e w8 ⟨rfl, F8, hH, hA⟩; unfold faultE; have hp := (HA8.out.then_below HBw.out).trans hA; suffices _ : wpAny Tryz.prog .any #[] (fun _ _ _ => True) 0 #[] { tmps := #[], defers := [] } w8 from ⟨rfl, rfl, F8, hH, hp⟩))
        all_goals exact True.intro
      | ok v s4 =>
        go_region_with (first
          | (go_at_call 194; refine (symbol_any n _).mono ?_; rintro e w7 ⟨rfl, hb0⟩; have hb := (bel_drew (w := W6)).trans hb0; clear hb0; have HBw := Lib.hid hb; obtain ⟨t2, t3, _, _⟩ := (HB8.out.below hb).two; clear hb)
          | (go_at_call 166; refine (HC2.out _ _ _ (HP7.out.later HBw.out)).mono ?_; rintro e w8 ⟨a8, F8, rfl, hP, hA⟩; obtain ⟨g0, g1, g2, g3⟩ := (hA.blk (HBr.out.below HBw.out) HM5.out.f HM5.out.p).1.two; have HP8 := Lib.hid hP; have HA9 := Lib.hid hA; clear hP hA))
        all_goals (
          go_wp2_with fail
          have hf := HP8.out.put2 (HM5.out.later HA9.out (HBr.out.below HBw.out).lt) ((HA8.out.then_below HBw.out).trans HA9.out) (Nat.le_of_eq HR.out) (.int .i64 v.1) (.int .i64 v.2)
          refine bodyPost_ret (v := wd v) (by simp [results, Tryz.results168, go_sem, g0, g1, g2, g3]) rfl ⟨a8, F8, rfl, hf.1, hf.2⟩)
end Go.Proofs.YtlibdhnlmekmhaaGreatDoor.Rd
end

/- A row of words beside a parser. -/
section
namespace Go.Proofs.YtlibdhnlmekmhaaGreatDoor.Rd
set_option maxRecDepth 100000
open Go.RowKit
open Go.Proofs.YtlibdhnlmekmhaaGreatDoor.Own Go.Proofs.YtlibdhnlmekmhaaGreatDoor.Hp Go.Proofs.YtlibdhnlmekmhaaGreatDoor.Rep Go.Proofs.YtlibdhnlmekmhaaGreatDoor.Get Go.Proofs.YtlibdhnlmekmhaaGreatDoor.Add Go.Proofs.YtlibdhnlmekmhaaGreatDoor.Make Go.Proofs.YtlibdhnlmekmhaaGreatDoor.Utf Go.Proofs.YtlibdhnlmekmhaaGreatDoor.Strs Go.Proofs.YtlibdhnlmekmhaaGreatDoor.Clone

theorem wcells_app (a b : List Wd) : wcells (a ++ b) = wcells a ++ wcells b := by
  induction a with
  | nil => rfl
  | cons x a ih => simp [wcells, ih]
/-- Two cells of a word that was built. -/
theorem new_cells (w : World) (x y : Value) (t : TypeId) : ∀ j u, [x, y][j]? = some u → (w.alloc (.cells #[x, y] t)).cell? ((⟨w.heap.size, 0, none⟩ : Addr).add j) = some u := by
  intro j u hj
  have h := Blk.new w #[x, y] t
  rcases j with _ | _ | j
  · simp at hj; subst hj; exact h.cell 0 _ rfl
  · simp at hj; subst hj; exact h.cell 1 _ rfl
  · simp at hj
theorem new_one (a b : Int) : ∀ u ∈ [Value.int .i64 a, .int .i64 b], u.oneCell' = true := by
  intro u hu
  simp at hu
  rcases hu with rfl | rfl <;> rfl
/-- A parser, and a row of words that the call has made since w0. -/
structure PR (X : Fx) (w0 wr : World) (a op : Nat) (s : St) (F0 F : Nat → Prop) (v : Value) (l : List Wd) : Prop where
  ps : PS X wr a op s F
  aft : PAfter X w0 wr F0 F
  row : wr.ownsRow w0.heap.size 28 2 v l.length (wcells l)
  mine : ∀ g, v.ownBlock = some g → Mine X wr F g
theorem PR.start {X : Fx} {w0 : World} {a op : Nat} {s : St} {F : Nat → Prop} (h : PS X w0 a op s F) : PR X w0 w0 a op s F F (.slice none 0 0) [] :=
  ⟨h, .refl _ _ _, World.ownsRow_nil _ _ _ _, fun g hg => by cases hg⟩
theorem PR.later {X : Fx} {w0 wr W : World} {a op : Nat} {s : St} {F0 F : Nat → Prop} {v : Value} {l : List Wd} (h : PR X w0 wr a op s F0 F v l) (hb : Below wr.heap.size wr W) : PR X w0 W a op s F0 F v l :=
  ⟨h.ps.later hb, h.aft.then_below hb, owns_below h.row hb, fun g hg => ⟨(h.mine g hg).f, (h.mine g hg).p, (h.mine g hg).g, (h.mine g hg).m, (h.mine g hg).low⟩⟩
/-- A method that reads. -/
theorem PR.act {X : Fx} {w0 wr W : World} {a a' op op' : Nat} {s s' : St} {F0 F F' : Nat → Prop} {v : Value} {l : List Wd} (h : PR X w0 wr a op s F0 F v l) (hP : PS X W a' op' s' F') (hA : PAfter X wr W F F') : PR X w0 W a' op' s' F0 F' v l where
  ps := hP
  aft := h.aft.trans hA
  row := owns_keeps h.row hA.keeps fun g hg e => e.elim (h.mine g hg).f (h.mine g hg).p
  mine := fun g hg => by
    have := (h.mine g hg).later hA (h.row.lt g hg).2
    exact ⟨this.f, this.p, this.g, this.m, this.low⟩
theorem PR.push {X : Fx} {w0 wr w' : World} {a op c' : Nat} {s : St} {F0 F : Nat → Prop} {v : Value} {l : List Wd} {A' : Option Addr} {x : Wd} (h : PR X w0 wr a op s F0 F v l)
    (hap : Appended wr w' w0.heap.size 28 2 v (.slice A' (l.length + 1) c') (l.length + 1) (wcells l ++ [.int .i64 x.1, .int .i64 x.2])) : PR X w0 w' a op s F0 F (.slice A' (l.length + 1) c') (l ++ [x]) := by
  have hk : Keeps (fun b => v.ownBlock = some b) wr w' := (Keeps.refl _ wr).grown hap.grown fun k hk _ => hk
  refine ⟨h.ps.keeps hk fun b hb => ⟨(h.mine b hb).f, (h.mine b hb).p, (h.mine b hb).g, (h.mine b hb).m, (h.mine b hb).low⟩, ⟨h.aft.keeps.then hk fun b hlt e => by have := (h.row.lt b e).1; omega, h.aft.grow⟩, ?_, fun b hb => ?_⟩
  · have := hap.row
    rw [wcells_app, List.length_append]
    exact this
  · rcases hap.place b hb with e | e
    · exact ⟨(h.mine b e).f, (h.mine b e).p, (h.mine b e).g, (h.mine b e).m, (h.mine b e).low⟩
    · have := h.ps.mine (b := b) (by omega)
      exact ⟨this.f, this.p, this.g, this.m, this.low⟩
theorem PR.len {X : Fx} {w0 wr : World} {a op : Nat} {s : St} {F0 F : Nat → Prop} {v : Value} {l : List Wd} (h : PR X w0 wr a op s F0 F v l) : ∃ A c, v = .slice A l.length c := by
  rcases h.row.2 with ⟨rfl, h2⟩ | ⟨g, cap, cur, rfl, _⟩
  · exact ⟨none, 0, by rw [h2]⟩
  · exact ⟨_, _, rfl⟩

/-- Forms are read right where at most so much is looked at. -/
def FormOk (X : Fx) (k : Nat) : Prop := ∀ o N j, j ≤ k → 2 * N + 1 ≤ j → Runs X 68 o N retW (formM X.lim j o)
theorem eachM_skip (lim k o : Nat) (acc : List Wd) (s : St) : eachM lim k o acc ⟨skipF false s.rest, s.ob, s.tb⟩ = eachM lim k o acc s := by
  cases k with
  | zero => rfl
  | succ k => rw [eachM_succ]; unfold eachG; simp only [skipF_skipF]
theorem elemM_skip (lim k o : Nat) (acc : List Wd) (s : St) : elemM lim k o acc ⟨skipF false s.rest, s.ob, s.tb⟩ = elemM lim k o acc s := by
  cases k with
  | zero => rfl
  | succ k => rw [elemM_succ]; unfold elemG; simp only [skipF_skipF]
end Go.Proofs.YtlibdhnlmekmhaaGreatDoor.Rd
end

/- Numerals: their characters, their bytes, and what strconv.Atoi and strings.Trim make of them. -/
section
namespace Go.Proofs.YtlibdhnlmekmhaaGreatDoor.Rd
open Go.RowKit Go.Lib
open Go.Proofs.YtlibdhnlmekmhaaGreatDoor.Hp Go.Proofs.YtlibdhnlmekmhaaGreatDoor.Utf

theorem enc_one {c : Int} (h0 : 0 ≤ c) (h1 : c ≤ 127) : encodeRune c = [c.toNat.toUInt8] := by
  unfold encodeRune
  rw [encodeRuneZ_one h0 h1]
  rfl
/-- The first byte of a character beyond ASCII. -/
theorem enc_high {c : Int} (hc : isC c) (h : 128 ≤ c) : ∀ b ∈ encodeRune c, 128 ≤ b.toNat := by
  obtain ⟨h0, h1, h2⟩ := hc
  intro b hb
  unfold encodeRune at hb
  obtain ⟨z, hz, rfl⟩ := List.mem_map.1 hb
  have hz2 : 128 ≤ z ∧ z < 256 := by
    by_cases a1 : c ≤ 2047
    · rw [encodeRuneZ_two h a1] at hz
      simp at hz
      omega
    · by_cases a2 : c ≤ 65535
      · rw [encodeRuneZ_three (by omega)] at hz
        simp at hz
        omega
      · rw [encodeRuneZ_four (by omega) h1] at hz
        simp at hz
        omega
  rw [byte_num z (by omega) (by omega)]
  omega
theorem low_byte {c : Int} (h0 : 0 ≤ c) (h1 : c ≤ 127) : (c.toNat.toUInt8).toNat = c.toNat := byte_num c h0 (by omega)
/-- The first byte is ASCII exactly where the first character is. -/
theorem enc_head {c : Int} (hc : isC c) (r : List Int) : ∃ b t, enc (c :: r) = b :: t ∧ ((c ≤ 127 ∧ b = c.toNat.toUInt8 ∧ t = enc r) ∨ (128 ≤ c ∧ 128 ≤ b.toNat)) := by
  rw [enc_cons]
  by_cases h : c ≤ 127
  · rw [enc_one hc.1 h]
    exact ⟨_, _, rfl, .inl ⟨h, rfl, rfl⟩⟩
  · have h2 := enc_high hc (by omega)
    have h3 := (encode_length c).1
    cases he : encodeRune c with
    | nil => rw [he] at h3; simp at h3
    | cons b t =>
      rw [he] at h2
      exact ⟨b, t ++ enc r, rfl, .inr ⟨by omega, h2 b (by simp)⟩⟩
def digitsB : List UInt8 := [48, 49, 50, 51, 52, 53, 54, 55, 56, 57]
theorem in_digits (b : UInt8) : digitsB.contains b = true ↔ 48 ≤ b.toNat ∧ b.toNat ≤ 57 := by
  unfold digitsB
  simp only [List.contains_cons, List.contains_nil, Bool.or_false, Bool.or_eq_true, beq_iff_eq]
  constructor
  · rintro (rfl | rfl | rfl | rfl | rfl | rfl | rfl | rfl | rfl | rfl) <;> decide
  · intro h
    have e : ∀ n : UInt8, b.toNat = n.toNat → b = n := fun n hn => UInt8.toNat_inj.1 hn
    have : b.toNat = 48 ∨ b.toNat = 49 ∨ b.toNat = 50 ∨ b.toNat = 51 ∨ b.toNat = 52 ∨ b.toNat = 53 ∨ b.toNat = 54 ∨ b.toNat = 55 ∨ b.toNat = 56 ∨ b.toNat = 57 := by omega
    rcases this with h | h | h | h | h | h | h | h | h | h
    · exact .inl (e 48 h)
    · exact .inr (.inl (e 49 h))
    · exact .inr (.inr (.inl (e 50 h)))
    · exact .inr (.inr (.inr (.inl (e 51 h))))
    · exact .inr (.inr (.inr (.inr (.inl (e 52 h)))))
    · exact .inr (.inr (.inr (.inr (.inr (.inl (e 53 h))))))
    · exact .inr (.inr (.inr (.inr (.inr (.inr (.inl (e 54 h)))))))
    · exact .inr (.inr (.inr (.inr (.inr (.inr (.inr (.inl (e 55 h))))))))
    · exact .inr (.inr (.inr (.inr (.inr (.inr (.inr (.inr (.inl (e 56 h)))))))))
    · exact .inr (.inr (.inr (.inr (.inr (.inr (.inr (.inr (.inr (e 57 h)))))))))
theorem digitB_iff (c : Int) : digitB c = true ↔ 48 ≤ c ∧ c ≤ 57 := by simp [digitB]
/-- All bytes are digits exactly where all characters are. -/
theorem all_digits : ∀ (l : List Int), (∀ c ∈ l, isC c) → ((enc l).all (digitsB.contains ·) = l.all digitB)
  | [], _ => rfl
  | c :: r, h => by
    have ih := all_digits r fun x hx => h x (List.mem_cons_of_mem _ hx)
    have hc := h c (by simp)
    rw [enc_cons, List.all_append, ih, List.all_cons]
    congr 1
    by_cases h1 : c ≤ 127
    · rw [enc_one hc.1 h1, Bool.eq_iff_iff]
      simp only [List.all_cons, List.all_nil, Bool.and_true]
      rw [in_digits, digitB_iff, low_byte hc.1 h1]
      have := hc.1
      omega
    · have h2 := enc_high hc (by omega)
      have e1 : digitB c = false := by
        rw [Bool.eq_false_iff]
        intro e
        have := (digitB_iff c).1 e
        omega
      rw [e1, Bool.eq_false_iff]
      intro e
      have h3 := (encode_length c).1
      cases he : encodeRune c with
      | nil => rw [he] at h3; simp at h3
      | cons b t =>
        rw [he] at e h2
        have h4 := (in_digits b).1 (List.all_eq_true.1 e b (by simp))
        have := h2 b (by simp)
        omega
theorem dropWhile_nil {α : Type} (p : α → Bool) : ∀ l : List α, l.dropWhile p = [] ↔ l.all p = true
  | [] => by simp
  | c :: r => by
    rw [List.dropWhile_cons, List.all_cons]
    split
    · rename_i e
      rw [dropWhile_nil p r, e]
      simp
    · rename_i e
      simp [e]
theorem trimS_nil (l cs : List UInt8) : trimS l cs = [] ↔ l.all (cs.contains ·) = true := by
  unfold trimS trimLeftS trimRightS
  rw [dropWhile_nil, List.all_reverse]
  constructor
  · intro h
    have h2 : ∀ m : List UInt8, (m.dropWhile (cs.contains ·)).all (cs.contains ·) = true → m.all (cs.contains ·) = true := by
      intro m
      induction m with
      | nil => simp
      | cons c r ih =>
        intro hm
        rw [List.dropWhile_cons] at hm
        split at hm
        · rename_i e
          rw [List.all_cons, e, ih hm]
          rfl
        · exact hm
    have := h2 _ h
    rwa [List.all_reverse] at this
  · intro h
    have h3 : l.reverse.all (cs.contains ·) = true := by rw [List.all_reverse]; exact h
    rw [(dropWhile_nil _ _).2 h3]
    rfl

/-- The value of digits behind a. -/
def valFrom (a : Int) (l : List Int) : Int := l.foldl (fun n c => 10 * n + (c - 48)) a
theorem valFrom_ge : ∀ (l : List Int) (a : Int), 0 ≤ a → l.all digitB = true → a ≤ valFrom a l
  | [], a, _, _ => Int.le_refl _
  | c :: r, a, ha, h => by
    rw [List.all_cons, Bool.and_eq_true] at h
    have hd := (digitB_iff c).1 h.1
    have := valFrom_ge r (10 * a + (c - 48)) (by omega) h.2
    unfold valFrom at this ⊢
    rw [List.foldl_cons]
    omega
/-- How digits are parsed. -/
theorem parse_digits : ∀ (l : List Int) (a : Nat), a < 18446744073709551616 → l.all digitB = true → (parseUint10 a (enc l) = .ok (valFrom a l).toNat ∧ valFrom a l < 18446744073709551616) ∨ (parseUint10 a (enc l) = .range ∧ 18446744073709551616 ≤ valFrom a l)
  | [], a, ha, _ => .inl ⟨by simp [enc, parseUint10, valFrom], by simp [valFrom]; omega⟩
  | c :: r, a, ha, h => by
    rw [List.all_cons, Bool.and_eq_true] at h
    have hd := (digitB_iff c).1 h.1
    rw [enc_cons, enc_one (by omega) (by omega)]
    rw [List.singleton_append, parseUint10, low_byte (by omega) (by omega), if_pos (by omega)]
    have hv : valFrom a (c :: r) = valFrom (10 * a + (c - 48)) r := rfl
    have hge := valFrom_ge r (10 * a + (c - 48)) (by omega) h.2
    rw [hv]
    split
    · exact .inr ⟨rfl, by omega⟩
    · split
      · exact .inr ⟨rfl, by omega⟩
      · rename_i h1 h2
        have e : ((a * 10 + (c.toNat - 48) : Nat) : Int) = 10 * a + (c - 48) := by omega
        have := parse_digits r (a * 10 + (c.toNat - 48)) (by omega) h.2
        rw [e] at this
        exact this
theorem parseMag_digits {l : List Int} (hne : l ≠ []) (h : l.all digitB = true) : (parseMag (enc l) = .ok (valF l).toNat ∧ 0 ≤ valF l ∧ valF l < 18446744073709551616) ∨ (parseMag (enc l) = .range ∧ 18446744073709551616 ≤ valF l) := by
  unfold parseMag
  have hn : enc l ≠ [] := by
    cases l with
    | nil => exact absurd rfl hne
    | cons c r => rw [enc_cons]; exact encode_ne c _
  rw [if_neg hn]
  have h0 := valFrom_ge l 0 (by omega) h
  rcases parse_digits l 0 (by omega) h with ⟨h1, h2⟩ | ⟨h1, h2⟩
  · exact .inl ⟨h1, h0, h2⟩
  · exact .inr ⟨h1, h2⟩
/-- What Atoi makes of a numeral. -/
theorem atoi_num {l : List Int} (hc : ∀ c ∈ l, isC c) (h : numB l = true) : (atoiAll (enc l) = .ok (intV l)) ∨ (atoiAll (enc l) = .range ∧ ¬ (-2305843009213693952 ≤ intV l ∧ intV l ≤ 2305843009213693951)) := by
  cases l with
  | nil => simp [numB, unsign] at h
  | cons c r =>
    unfold numB at h
    rw [Bool.and_eq_true] at h
    obtain ⟨h1, h2⟩ := h
    have hne : unsign (c :: r) ≠ [] := by
      intro e
      rw [e] at h1
      simp at h1
    have key : ∀ (e : NumEnd Nat) (v : Int), ((e = .ok v.toNat ∧ 0 ≤ v ∧ v < 18446744073709551616) ∨ (e = .range ∧ 18446744073709551616 ≤ v)) →
        ((signless e = .ok v ∨ (signless e = .range ∧ ¬ (-2305843009213693952 ≤ v ∧ v ≤ 2305843009213693951))) ∧ (signed e = .ok (-v) ∨ (signed e = .range ∧ ¬ (-2305843009213693952 ≤ -v ∧ -v ≤ 2305843009213693951)))) := by
      rintro e v (⟨rfl, k0, k1⟩ | ⟨rfl, k1⟩)
      · unfold signless signed
        simp only
        constructor
        · split
          · exact .inr ⟨rfl, by omega⟩
          · exact .inl (by rw [Int.toNat_of_nonneg k0])
        · split
          · exact .inr ⟨rfl, by omega⟩
          · exact .inl (by rw [Int.toNat_of_nonneg k0])
      · exact ⟨.inr ⟨rfl, by omega⟩, .inr ⟨rfl, by omega⟩⟩
    by_cases e43 : c = 43
    · subst e43
      have hu : unsign (43 :: r) = r := by simp [unsign]
      rw [hu] at hne h2
      have hv : intV (43 :: r) = valF r := by unfold intV; rw [hu]; simp
      rw [enc_cons, enc_one (by omega) (by omega), hv]
      have := (key _ _ (parseMag_digits hne h2)).1
      rw [← atoiAll_plus] at this
      exact this
    · by_cases e45 : c = 45
      · subst e45
        have hu : unsign (45 :: r) = r := by simp [unsign]
        rw [hu] at hne h2
        have hv : intV (45 :: r) = -valF r := by unfold intV; rw [hu]; simp
        rw [enc_cons, enc_one (by omega) (by omega), hv]
        have := (key _ _ (parseMag_digits hne h2)).2
        rw [← atoiAll_minus] at this
        exact this
      · have hu : unsign (c :: r) = c :: r := by simp [unsign, e43, e45]
        rw [hu] at hne h2
        have hv : intV (c :: r) = valF (c :: r) := by unfold intV; rw [hu]; simp [e45]
        have hd := (digitB_iff c).1 (List.all_eq_true.1 h2 c (by simp))
        have := (key _ _ (parseMag_digits hne h2)).1
        rw [hv]
        rw [enc_cons, enc_one (by omega) (by omega)] at this ⊢
        rw [List.singleton_append] at this ⊢
        rw [atoiAll_plain _ _ (by rw [low_byte (by omega) (by omega)]; omega) (by rw [low_byte (by omega) (by omega)]; omega)]
        exact this
theorem intV_in {l : List Int} (hc : ∀ c ∈ l, isC c) (h : numB l = true) {v : Int} (hv : atoiAll (enc l) = .ok v) : v = intV l := by
  rcases atoi_num hc h with e | ⟨e, _⟩
  · rw [e] at hv; cases hv; rfl
  · rw [e] at hv; cases hv
end Go.Proofs.YtlibdhnlmekmhaaGreatDoor.Rd
end
