/- The contract of elements. | Conses of a list's elements that do not fail: plain mathematics. | The contracts of slices.Backward at words, and of its closure. -/
import Derived.RangeFuncNested
import Derived.RangeFuncBound
import Derived.RangeFuncCalls
import Derived.RangeFuncLeaves
import Derived.Shelf.Abstract
import Derived.Shelf.RegionOpen
import Derived.OwnWalkIn
import Derived.TacticsInMore
import Derived.LoopNIn
import Derived.LoopIn
import Derived.Test.YtlibdhnlmekmhaaGreatDoorMh29
/- The contract of elements. -/
section
namespace Go.Proofs.YtlibdhnlmekmhaaGreatDoor.Rd
set_option maxRecDepth 100000
open Go.RowKit
open Go.Proofs.YtlibdhnlmekmhaaGreatDoor.Own Go.Proofs.YtlibdhnlmekmhaaGreatDoor.Hp Go.Proofs.YtlibdhnlmekmhaaGreatDoor.Rep Go.Proofs.YtlibdhnlmekmhaaGreatDoor.Get Go.Proofs.YtlibdhnlmekmhaaGreatDoor.Add Go.Proofs.YtlibdhnlmekmhaaGreatDoor.Make Go.Proofs.YtlibdhnlmekmhaaGreatDoor.Utf Go.Proofs.YtlibdhnlmekmhaaGreatDoor.Strs Go.Proofs.YtlibdhnlmekmhaaGreatDoor.Clone
open Go.Proofs.YtlibdhnlmekmhaaGreatDoor.Nt hiding Wd

/-- A row of words that a method has made. -/
structure Els (X : Fx) (w : World) (F : Nat → Prop) (v : Value) (l : List Wd) : Prop where
  row : w.ownsRow X.w0.heap.size 28 2 v l.length (wcells l)
  mine : ∀ g, v.ownBlock = some g → Mine X w F g
def retE (X : Fx) (p : List Wd × Wd) (e : Ending) (w : World) (F : Nat → Prop) : Prop := ∃ A c, e = .returned (.tuple #[.slice A p.1.length c, wd p.2]) ∧ Els X w F (.slice A p.1.length c) p.1
theorem owns_low {w : World} {b0 b1 : Nat} {e : TypeId} {size n : Nat} {v : Value} {xs : List Value} (h : w.ownsRow b1 e size v n xs) (hb : b0 ≤ b1) : w.ownsRow b0 e size v n xs := by
  refine ⟨h.1, ?_⟩
  rcases h.2 with h0 | ⟨g, cap, cur, hv, hbg, rest⟩
  · exact .inl h0
  · exact .inr ⟨g, cap, cur, hv, Nat.le_trans hb hbg, rest⟩
/-- The box r of the result is written at the end. -/
theorem PR.ends {X : Fx} {w w1 wr : World} {a op r : Nat} {s : St} {F F1 : Nat → Prop} {A : Option Addr} {c : Nat} {l : List Wd} {y : Wd} (h : PR X w1 wr a op s F F1 (.slice A l.length c) l) (hA : PAfter X w w1 F F) (hM : Mine X w F r) (hB : Blk w1 r #[.int .i64 0, .int .i64 0] 28) (hr : w.heap.size ≤ r) :
    Out X w op F (retE X) (.ok (l, y) s) (.returned (.tuple #[.slice A l.length c, wd y])) ((wr.setCell ⟨r, 0, none⟩ (.int .i64 y.1)).setCell ⟨r, 1, none⟩ (.int .i64 y.2)) := by
  have hM2 := hM.later h.aft hB.lt
  have hf := h.ps.put2 hM2 (hA.trans h.aft) hr (.int .i64 y.1) (.int .i64 y.2)
  have hk : Keeps (fun q => q = r) wr ((wr.setCell ⟨r, 0, none⟩ (.int .i64 y.1)).setCell ⟨r, 1, none⟩ (.int .i64 y.2)) := (keeps_set wr r 0 _).trans (keeps_set _ r 1 _)
  refine ⟨a, F1, ⟨A, c, rfl, ⟨owns_low (b1 := w1.heap.size) ?_ ?_, ?_⟩⟩, hf.1, hf.2⟩
  · refine owns_keeps h.row hk fun g hg e => ?_
    subst e
    have h1 := (h.row.lt _ hg).1
    have h2 := hB.lt
    omega
  · have := hM.low
    have := hB.lt
    omega
  · intro g hg
    have := h.mine g hg
    exact ⟨this.f, this.p, this.g, this.m, this.low⟩
/-- Between two rounds: the elements so far. -/
def ElAt (X : Fx) (w2 wr : World) (op k : Nat) (F : Nat → Prop) (R : Res (List Wd × Wd)) (u : Value) : Prop :=
  ∃ (l : List Wd) (a' : Nat) (r : List Int) (ob : Obs) (tb : Tb) (F' : Nat → Prop) (j : Nat),
    PR X w2 wr a' op ⟨r, ob, tb⟩ F F' u l ∧ skipF false r = r ∧ elemM X.lim j op l ⟨r, ob, tb⟩ = R ∧ 2 * r.length + 2 ≤ j ∧ j ≤ k ∧ l.length + r.length ≤ X.l.length
theorem ElAt.skip {X : Fx} {w2 wr wq : World} {a op k j : Nat} {s : St} {F F1 : Nat → Prop} {R : Res (List Wd × Wd)} {u : Value} {l : List Wd} (h : PR X w2 wr a op s F F1 u l) (hR : elemM X.lim j op l s = R) (hj : 2 * s.rest.length + 2 ≤ j) (hk : j ≤ k) (hl : l.length + s.rest.length ≤ X.l.length)
    (hA : At X wr wq op s F1 (fun r => r = skipF false s.rest)) : ElAt X w2 wq op k F R u := by
  obtain ⟨a', r, hP, hA, rfl⟩ := hA
  have := (skipF_suf s.rest false).length_le
  exact ⟨l, a', skipF false s.rest, s.ob, s.tb, F1, j, h.act hP hA, skipF_skipF _ _, by rw [elemM_skip]; exact hR, by omega, hk, by omega⟩
theorem dotB_eq (l : List Wd) (q : List Int) : dotB l q = true ↔ l ≠ [] ∧ nx q = 46 ∧ endsB (q.drop 1) = true := by
  unfold dotB
  cases l <;> cases q <;> simp [nx, endsB]

set_option maxHeartbeats 8000000 in
theorem PS.elements {X : Fx} {w : World} {a op : Nat} {s : St} {F : Nat → Prop} (h : PS X w a op s F) (hX : X.Ok)
    {k : Nat} (hk : 2 * s.rest.length + 2 ≤ k) (hF : ∀ j, j < k → FormOk X j) (hnf : NF (elemM X.lim k op [] s)) :
    Calls Tryz.prog 165 #[pptr X.p] w (Out X w op F (retE X) (elemM X.lim k op [] s)) := by
  have h1 := h.alloc wbox0
  have hM := h.mine (Nat.le_refl _)
  have hA1 : PAfter X w (w.alloc wbox0) F F := .of_below (bel_box _ _)
  obtain ⟨r, hrr⟩ : ∃ r, w.heap.size = r := ⟨_, rfl⟩
  have hB1 : Blk (w.alloc wbox0) r #[.int .i64 0, .int .i64 0] 28 := by rw [← hrr]; exact Blk.new w _ _
  rw [hrr] at hM
  have HR := Lib.hid hrr
  obtain ⟨R, hR⟩ : ∃ R, elemM X.lim k op [] s = R := ⟨_, rfl⟩
  rw [hR] at hnf ⊢
  have hn := h.n
  have HNF := Lib.hid hnf
  have HX := Lib.hid hX
  have HRe := Lib.hid hR
  have HF := Lib.hid hF
  have HK := Lib.hid hk
  have HLn := Lib.hid (show s.rest.length ≤ X.l.length by omega)
  have HM := Lib.hid hM
  obtain ⟨w2, hw2⟩ : ∃ w2, w.alloc wbox0 = w2 := ⟨_, rfl⟩
  rw [hw2] at h1 hA1 hB1
  have HP2 := Lib.hid h1
  have HA1 := Lib.hid hA1
  have HB1 := Lib.hid hB1
  obtain ⟨i0, hi, hz0, hz1, hz2⟩ := info_parts word_info
  have HI := Lib.hid hi
  have HZ0 := Lib.hid hz0
  have HZ1 := Lib.hid hz1
  have HZ2 := Lib.hid hz2
  clear hi hz0 hz1 hz2
  clear h h1 hM hA1 hB1 hnf hF hk hR hn hX
  go_enter Tryz.func165, Tryz.ntmps165
  go_wp2_with fail
  refine (HP2.out.skip HX.out).mono ?_
  rintro e w3 ⟨rfl, hat⟩
  have HV := Lib.hid (ElAt.skip (PR.start HP2.out) HRe.out HK.out (Nat.le_refl _) (by simpa using HLn.out) hat)
  clear hat
  go_wp2_with fail
  clear hw2 hrr
  go_loopw [4] (fun u wr => ElAt X w2 wr op k F R u) (fun _ wr => X.l.length - atOf wr X.p)
  case atStart => exact HV.out
  case round =>
    obtain ⟨l, a1, q, ob, tb, F1, j, hPR, hsk, hj, hj2, hjk, hll⟩ := hrel
    have hs := HX.out.short
    obtain ⟨A0, cp0, rfl⟩ := hPR.len
    have HPR := Lib.hid hPR
    have HNx := Lib.hid (hPR.ps.next HX.out)
    have hend := hPR.ps.ends HX.out 1 (by omega) ((a1 : Int) + 1) (by omega)
    have hn1 := nx_head (l := q) (c := 41) (by omega)
    obtain ⟨v, hv⟩ : ∃ v, nx q = v := ⟨_, rfl⟩
    dsimp only at HNx hend
    rw [hv] at HNx hn1
    obtain ⟨i, rfl⟩ : ∃ i, j = i + 1 := ⟨j - 1, by omega⟩
    rw [elemM_succ] at hj
    unfold elemG at hj
    simp only [hsk] at hj
    have hle1 := hPR.ps.le
    have hb3 : (a1 : Int) + 1 ≤ 1000001 := by omega
    obtain ⟨_, _, _, c3, _, _⟩ := Blk.six hPR.ps.blk
    by_cases e41 : v = 41
    · subst e41
      rw [if_pos (hn1.1 rfl)] at hj
      obtain ⟨t2, rfl⟩ : ∃ t2, q = 41 :: t2 := by
        cases q with
        | nil => simp [nx] at hv
        | cons d t2 => simp [nx] at hv; exact ⟨t2, by rw [hv]⟩
      have hat := hPR.ps.at_
      dsimp only at hat
      obtain ⟨hd, hle⟩ := drop_tail hat
      have hm := hPR.ps.move HX.out (a1 + 1) hle (.int .i64 ((a1 : Int) + 1)) (by simp)
      rw [hd] at hm
      have hPm := hPR.act hm.1 hm.2
      have f3 := hPR.ps.blk.free 3
      obtain ⟨W6, hW6⟩ : ∃ W, wr.setCell ⟨X.p, 3, none⟩ (.int .i64 ((a1 : Int) + 1)) = W := ⟨_, rfl⟩
      rw [hW6] at hPm
      have HPm := Lib.hid hPm
      have HJ := Lib.hid hj
      clear hPR hsk hj hj2 hjk hll hs hn1 hv hat hd hle hm hPm hend hle1
      go_wp2_with (first
        | (go_at_call 67; refine HNx.out.mono ?_; rintro e w' ⟨rfl, rfl⟩))
      refine (symbol_any 0 _).mono ?_
      rintro e w7 ⟨rfl, hb⟩
      have HP7 := Lib.hid (HPm.out.later hb)
      obtain ⟨g0, g1, g2, g3⟩ := (HP7.out.aft.blk HB1.out HM.out.f HM.out.p).1.two
      clear hb
      go_wp2_with fail
      have ho := HP7.out.ends (y := (1, 0)) HA1.out HM.out HB1.out (Nat.le_of_eq HR.out)
      rw [← HJ.out]
      exact bodyPost_ret (v := .tuple #[.slice A0 l.length cp0, wd (1, 0)]) (by simp [results, Tryz.results165, go_sem, g0, g1, g2, g3]) rfl ho
    · have hv1 : (v != 41) = true := by simpa using e41
      rw [if_neg (fun e => e41 (hn1.2 e))] at hj
      by_cases hdot : dotB l q = true
      · rw [if_pos hdot] at hj
        obtain ⟨hl0, hv46, he1⟩ := (dotB_eq l q).1 hdot
        obtain rfl : v = 46 := by rw [← hv]; exact hv46
        rw [he1] at hend
        have HE := Lib.hid hend
        obtain ⟨t2, rfl⟩ : ∃ t2, q = 46 :: t2 := by
          cases q with
          | nil => simp [nx] at hv
          | cons d t2 => simp [nx] at hv; exact ⟨t2, by rw [hv]⟩
        have hlp : 0 < l.length := List.length_pos_iff.2 hl0
        have hlpz : (0 : Int) < (l.length : Int) := by omega
        have hrn : Runs X 68 op t2.length retW (formM X.lim i op) := HF.out i (by omega) op t2.length i (Nat.le_refl _) (by simp at hj2; omega)
        rw [List.tail_cons] at hj
        have hT := hPR.ps.tail HX.out rfl l hrn (by dsimp only; rw [hj]; exact HNF.out)
        dsimp only at hT
        rw [hj] at hT
        have HT := Lib.hid hT
        clear hPR hsk hj hj2 hjk hll hs hn1 hv hend hle1 hdot hl0 hv46 he1 hrn hT e41
        cases R with
        | err c m ob' tb' =>
          go_wp2_with (first
            | (go_at_call 67; refine HNx.out.mono ?_; rintro e w' ⟨rfl, rfl⟩)
            | (go_at_call 169; refine HE.out.mono ?_; rintro e w' ⟨rfl, rfl⟩))
          refine HT.out.mono ?_
          rintro e w5 ⟨rfl, F', hH, hA⟩
          have HH := Lib.hid (And.intro hH (HA1.out.trans (HPR.out.aft.trans hA)))
          clear hH hA
          unfold faultE
          go_wp2_with fail
          exact ⟨rfl, rfl, F', HH.out.1, HH.out.2⟩
        | ok p s2 =>
          go_wp2_with (first
            | (go_at_call 67; refine HNx.out.mono ?_; rintro e w' ⟨rfl, rfl⟩)
            | (go_at_call 169; refine HE.out.mono ?_; rintro e w' ⟨rfl, rfl⟩))
          refine HT.out.mono ?_
          rintro e w5 ⟨a5, F5, ⟨rfl, hp1⟩, hP, hA⟩
          obtain ⟨p1, y⟩ := p
          dsimp only at hp1
          subst hp1
          have HP7 := Lib.hid (HPR.out.act hP hA)
          obtain ⟨g0, g1, g2, g3⟩ := (HP7.out.aft.blk HB1.out HM.out.f HM.out.p).1.two
          clear hP hA
          go_wp2_with fail
          have ho := HP7.out.ends (y := y) HA1.out HM.out HB1.out (Nat.le_of_eq HR.out)
          exact bodyPost_ret (v := .tuple #[.slice A0 p1.length cp0, wd y]) (by simp [results, Tryz.results165, go_sem, g0, g1, g2, g3]) rfl ho
      · rw [if_neg hdot] at hj
        obtain ⟨b, hb⟩ : ∃ b, endsB (q.drop 1) = b := ⟨_, rfl⟩
        rw [hb] at hend
        have HE := Lib.hid hend
        have hcase : l.length = 0 ∨ (0 < l.length ∧ (v == 46) = false) ∨ (0 < l.length ∧ v = 46 ∧ b = false) := by
          by_cases hl0 : l = []
          · exact .inl (by rw [hl0]; rfl)
          · have hlp : 0 < l.length := List.length_pos_iff.2 hl0
            by_cases e46 : v = 46
            · refine .inr (.inr ⟨hlp, e46, ?_⟩)
              cases hb2 : b with
              | false => rfl
              | true => exact (hdot ((dotB_eq l q).2 ⟨hl0, by rw [hv]; exact e46, by rw [hb, hb2]⟩)).elim
            · exact .inr (.inl ⟨hlp, by simpa using e46⟩)
        clear hb
        rcases hcase with hl0 | ⟨hlp, hv46⟩ | ⟨hlp, rfl, rfl⟩
        · have hlz : ¬ (0 : Int) < (l.length : Int) := by omega
          have hln : ¬ 0 < l.length := by omega
          clear hl0
          cases hq : formM X.lim i op ⟨q, ob, tb⟩ with
          | err c m ob' tb' =>
            rw [hq] at hj
            dsimp only at hj
            have hRun : NF (formM X.lim i op ⟨q, ob, tb⟩) := by
              rw [hq]
              have := HNF.out
              rw [← hj] at this
              exact this
            have HFm := Lib.hid (HF.out i (by omega) op q.length i (Nat.le_refl _) (by omega) _ _ _ _ hPR.ps (Nat.le_refl _) hRun)
            rw [hq] at HFm
            have HJ := Lib.hid hj
            clear hPR hsk hj hj2 hjk hll hs hn1 hv e41 hq hRun hend hle1 hdot
            go_wp2_with (first
              | (go_at_call 67; refine HNx.out.mono ?_; rintro e w' ⟨rfl, rfl⟩)
              | (go_at_call 169; refine HE.out.mono ?_; rintro e w' ⟨rfl, rfl⟩))
            refine HFm.out.mono ?_
            rintro e w5 ⟨rfl, F', hH, hA⟩
            have HH := Lib.hid (And.intro hH (HA1.out.trans (HPR.out.aft.trans hA)))
            clear hH hA
            unfold faultE
            go_wp2_with fail
            refine ⟨rfl, ?_⟩
            rw [← HJ.out]
            exact ⟨rfl, F', HH.out.1, HH.out.2⟩
          | ok x s2 =>
            rw [hq] at hj
            dsimp only at hj
            have hlt := (formM_lt hq).2
            have hRun : NF (formM X.lim i op ⟨q, ob, tb⟩) := by rw [hq]; trivial
            have HFm := Lib.hid (HF.out i (by omega) op q.length i (Nat.le_refl _) (by omega) _ _ _ _ hPR.ps (Nat.le_refl _) hRun)
            rw [hq] at HFm
            have HJ := Lib.hid hj
            have HLt := Lib.hid (show s2.rest.length < q.length from hlt)
            have HBn := Lib.hid (show 2 * s2.rest.length + 2 ≤ i ∧ i ≤ k ∧ (l ++ [x]).length + s2.rest.length ≤ X.l.length by
              have : s2.rest.length < q.length := hlt
              refine ⟨by omega, by omega, ?_⟩
              rw [List.length_append]
              simp
              omega)
            have HBd : Hid (l.length + 1 ≤ maxLen ∧ (l.length + 1) * 16 ≤ 140737488355328) := Lib.hid ⟨by unfold maxLen; omega, by omega⟩
            have HPa := Lib.hid hPR.ps.atIs
            have HPn := Lib.hid hPR.ps.n
            clear hPR hsk hj hj2 hjk hll hs hn1 hv e41 hq hRun hlt hend hle1 hdot
            go_wp2_with (first
              | (go_at_call 67; refine HNx.out.mono ?_; rintro e w' ⟨rfl, rfl⟩)
              | (go_at_call 169; refine HE.out.mono ?_; rintro e w' ⟨rfl, rfl⟩))
            refine HFm.out.mono ?_
            rintro e w5 ⟨a5, F5, rfl, hP, hA⟩
            have HPR5 := Lib.hid (HPR.out.act hP hA)
            clear hP hA
            go_wp2_with (at_builtin; go_loud (refine wpList_append_place rfl (.tmp 32) (.tmp 35) 36 rfl w2.heap.size 28 i0 (.agg #[.int .i64 0, .int .i64 0]) 2 16 Tryz.underlying36 HI.out HZ0.out HZ1.out HZ2.out rfl (by decide) (.slice A0 l.length cp0) l.length (wcells l) rfl (HPR5.out.later (bel_box _ _)).row ⟨_, 0, none⟩ 1 1 [.int .i64 x.1, .int .i64 x.2] rfl rfl (new_cells _ _ _ _) (new_one _ _) HBd.out.1 HBd.out.2 (Nat.le_trans HPR5.out.aft.keeps.size (bel_box _ _).size) ?_))
            intro A6 c6 w6 hap
            have HPR6 := Lib.hid ((HPR5.out.later (bel_box _ _)).push hap)
            clear hap
            go_wp2_with fail
            refine (HPR6.out.ps.skip HX.out).mono ?_
            rintro e w7 ⟨rfl, hat⟩
            have HV7 := Lib.hid (ElAt.skip HPR6.out HJ.out HBn.out.1 HBn.out.2.1 HBn.out.2.2 hat)
            have HMe : Hid (X.l.length - atOf w7 X.p < X.l.length - atOf wr X.p) := by
              obtain ⟨a7, q7, hP7, _, rfl⟩ := hat
              have e1 := hP7.atIs
              have e2 := hP7.n
              have e3 := HPa.out
              have e4 := HPn.out
              have e5 := HLt.out
              have e6 := (skipF_suf s2.rest false).length_le
              show _ - _ < _ - _
              rw [e1, e3]
              simp at e2 e4
              omega
            clear hat
            go_wp2_with fail
            go_roundw
            case rel => exact HV7.out
            case measure => exact HMe.out
        · have hlz : (0 : Int) < (l.length : Int) := by omega
          cases hq : formM X.lim i op ⟨q, ob, tb⟩ with
          | err c m ob' tb' =>
            rw [hq] at hj
            dsimp only at hj
            have hRun : NF (formM X.lim i op ⟨q, ob, tb⟩) := by
              rw [hq]
              have := HNF.out
              rw [← hj] at this
              exact this
            have HFm := Lib.hid (HF.out i (by omega) op q.length i (Nat.le_refl _) (by omega) _ _ _ _ hPR.ps (Nat.le_refl _) hRun)
            rw [hq] at HFm
            have HJ := Lib.hid hj
            clear hPR hsk hj hj2 hjk hll hs hn1 hv e41 hq hRun hend hle1 hdot
            go_wp2_with (first
              | (go_at_call 67; refine HNx.out.mono ?_; rintro e w' ⟨rfl, rfl⟩)
              | (go_at_call 169; refine HE.out.mono ?_; rintro e w' ⟨rfl, rfl⟩))
            refine HFm.out.mono ?_
            rintro e w5 ⟨rfl, F', hH, hA⟩
            have HH := Lib.hid (And.intro hH (HA1.out.trans (HPR.out.aft.trans hA)))
            clear hH hA
            unfold faultE
            go_wp2_with fail
            refine ⟨rfl, ?_⟩
            rw [← HJ.out]
            exact ⟨rfl, F', HH.out.1, HH.out.2⟩
          | ok x s2 =>
            rw [hq] at hj
            dsimp only at hj
            have hlt := (formM_lt hq).2
            have hRun : NF (formM X.lim i op ⟨q, ob, tb⟩) := by rw [hq]; trivial
            have HFm := Lib.hid (HF.out i (by omega) op q.length i (Nat.le_refl _) (by omega) _ _ _ _ hPR.ps (Nat.le_refl _) hRun)
            rw [hq] at HFm
            have HJ := Lib.hid hj
            have HLt := Lib.hid (show s2.rest.length < q.length from hlt)
            have HBn := Lib.hid (show 2 * s2.rest.length + 2 ≤ i ∧ i ≤ k ∧ (l ++ [x]).length + s2.rest.length ≤ X.l.length by
              have : s2.rest.length < q.length := hlt
              refine ⟨by omega, by omega, ?_⟩
              rw [List.length_append]
              simp
              omega)
            have HBd : Hid (l.length + 1 ≤ maxLen ∧ (l.length + 1) * 16 ≤ 140737488355328) := Lib.hid ⟨by unfold maxLen; omega, by omega⟩
            have HPa := Lib.hid hPR.ps.atIs
            have HPn := Lib.hid hPR.ps.n
            clear hPR hsk hj hj2 hjk hll hs hn1 hv e41 hq hRun hlt hend hle1 hdot
            go_wp2_with (first
              | (go_at_call 67; refine HNx.out.mono ?_; rintro e w' ⟨rfl, rfl⟩)
              | (go_at_call 169; refine HE.out.mono ?_; rintro e w' ⟨rfl, rfl⟩))
            refine HFm.out.mono ?_
            rintro e w5 ⟨a5, F5, rfl, hP, hA⟩
            have HPR5 := Lib.hid (HPR.out.act hP hA)
            clear hP hA
            go_wp2_with (at_builtin; go_loud (refine wpList_append_place rfl (.tmp 32) (.tmp 35) 36 rfl w2.heap.size 28 i0 (.agg #[.int .i64 0, .int .i64 0]) 2 16 Tryz.underlying36 HI.out HZ0.out HZ1.out HZ2.out rfl (by decide) (.slice A0 l.length cp0) l.length (wcells l) rfl (HPR5.out.later (bel_box _ _)).row ⟨_, 0, none⟩ 1 1 [.int .i64 x.1, .int .i64 x.2] rfl rfl (new_cells _ _ _ _) (new_one _ _) HBd.out.1 HBd.out.2 (Nat.le_trans HPR5.out.aft.keeps.size (bel_box _ _).size) ?_))
            intro A6 c6 w6 hap
            have HPR6 := Lib.hid ((HPR5.out.later (bel_box _ _)).push hap)
            clear hap
            go_wp2_with fail
            refine (HPR6.out.ps.skip HX.out).mono ?_
            rintro e w7 ⟨rfl, hat⟩
            have HV7 := Lib.hid (ElAt.skip HPR6.out HJ.out HBn.out.1 HBn.out.2.1 HBn.out.2.2 hat)
            have HMe : Hid (X.l.length - atOf w7 X.p < X.l.length - atOf wr X.p) := by
              obtain ⟨a7, q7, hP7, _, rfl⟩ := hat
              have e1 := hP7.atIs
              have e2 := hP7.n
              have e3 := HPa.out
              have e4 := HPn.out
              have e5 := HLt.out
              have e6 := (skipF_suf s2.rest false).length_le
              show _ - _ < _ - _
              rw [e1, e3]
              simp at e2 e4
              omega
            clear hat
            go_wp2_with fail
            go_roundw
            case rel => exact HV7.out
            case measure => exact HMe.out
        · have hlz : (0 : Int) < (l.length : Int) := by omega
          cases hq : formM X.lim i op ⟨q, ob, tb⟩ with
          | err c m ob' tb' =>
            rw [hq] at hj
            dsimp only at hj
            have hRun : NF (formM X.lim i op ⟨q, ob, tb⟩) := by
              rw [hq]
              have := HNF.out
              rw [← hj] at this
              exact this
            have HFm := Lib.hid (HF.out i (by omega) op q.length i (Nat.le_refl _) (by omega) _ _ _ _ hPR.ps (Nat.le_refl _) hRun)
            rw [hq] at HFm
            have HJ := Lib.hid hj
            clear hPR hsk hj hj2 hjk hll hs hn1 hv e41 hq hRun hend hle1 hdot
            go_wp2_with (first
              | (go_at_call 67; refine HNx.out.mono ?_; rintro e w' ⟨rfl, rfl⟩)
              | (go_at_call 169; refine HE.out.mono ?_; rintro e w' ⟨rfl, rfl⟩))
            refine HFm.out.mono ?_
            rintro e w5 ⟨rfl, F', hH, hA⟩
            have HH := Lib.hid (And.intro hH (HA1.out.trans (HPR.out.aft.trans hA)))
            clear hH hA
            unfold faultE
            go_wp2_with fail
            refine ⟨rfl, ?_⟩
            rw [← HJ.out]
            exact ⟨rfl, F', HH.out.1, HH.out.2⟩
          | ok x s2 =>
            rw [hq] at hj
            dsimp only at hj
            have hlt := (formM_lt hq).2
            have hRun : NF (formM X.lim i op ⟨q, ob, tb⟩) := by rw [hq]; trivial
            have HFm := Lib.hid (HF.out i (by omega) op q.length i (Nat.le_refl _) (by omega) _ _ _ _ hPR.ps (Nat.le_refl _) hRun)
            rw [hq] at HFm
            have HJ := Lib.hid hj
            have HLt := Lib.hid (show s2.rest.length < q.length from hlt)
            have HBn := Lib.hid (show 2 * s2.rest.length + 2 ≤ i ∧ i ≤ k ∧ (l ++ [x]).length + s2.rest.length ≤ X.l.length by
              have : s2.rest.length < q.length := hlt
              refine ⟨by omega, by omega, ?_⟩
              rw [List.length_append]
              simp
              omega)
            have HBd : Hid (l.length + 1 ≤ maxLen ∧ (l.length + 1) * 16 ≤ 140737488355328) := Lib.hid ⟨by unfold maxLen; omega, by omega⟩
            have HPa := Lib.hid hPR.ps.atIs
            have HPn := Lib.hid hPR.ps.n
            clear hPR hsk hj hj2 hjk hll hs hn1 hv e41 hq hRun hlt hend hle1 hdot
            go_wp2_with (first
              | (go_at_call 67; refine HNx.out.mono ?_; rintro e w' ⟨rfl, rfl⟩)
              | (go_at_call 169; refine HE.out.mono ?_; rintro e w' ⟨rfl, rfl⟩))
            refine HFm.out.mono ?_
            rintro e w5 ⟨a5, F5, rfl, hP, hA⟩
            have HPR5 := Lib.hid (HPR.out.act hP hA)
            clear hP hA
            go_wp2_with (at_builtin; go_loud (refine wpList_append_place rfl (.tmp 32) (.tmp 35) 36 rfl w2.heap.size 28 i0 (.agg #[.int .i64 0, .int .i64 0]) 2 16 Tryz.underlying36 HI.out HZ0.out HZ1.out HZ2.out rfl (by decide) (.slice A0 l.length cp0) l.length (wcells l) rfl (HPR5.out.later (bel_box _ _)).row ⟨_, 0, none⟩ 1 1 [.int .i64 x.1, .int .i64 x.2] rfl rfl (new_cells _ _ _ _) (new_one _ _) HBd.out.1 HBd.out.2 (Nat.le_trans HPR5.out.aft.keeps.size (bel_box _ _).size) ?_))
            intro A6 c6 w6 hap
            have HPR6 := Lib.hid ((HPR5.out.later (bel_box _ _)).push hap)
            clear hap
            go_wp2_with fail
            refine (HPR6.out.ps.skip HX.out).mono ?_
            rintro e w7 ⟨rfl, hat⟩
            have HV7 := Lib.hid (ElAt.skip HPR6.out HJ.out HBn.out.1 HBn.out.2.1 HBn.out.2.2 hat)
            have HMe : Hid (X.l.length - atOf w7 X.p < X.l.length - atOf wr X.p) := by
              obtain ⟨a7, q7, hP7, _, rfl⟩ := hat
              have e1 := hP7.atIs
              have e2 := hP7.n
              have e3 := HPa.out
              have e4 := HPn.out
              have e5 := HLt.out
              have e6 := (skipF_suf s2.rest false).length_le
              show _ - _ < _ - _
              rw [e1, e3]
              simp at e2 e4
              omega
            clear hat
            go_wp2_with fail
            go_roundw
            case rel => exact HV7.out
            case measure => exact HMe.out
end Go.Proofs.YtlibdhnlmekmhaaGreatDoor.Rd
end

/- Conses of a list's elements that do not fail: plain mathematics. -/
section
namespace Go.Proofs.YtlibdhnlmekmhaaGreatDoor.Rd
set_option maxRecDepth 100000
open Go.RowKit
open Go.Proofs.YtlibdhnlmekmhaaGreatDoor.Hp Go.Proofs.YtlibdhnlmekmhaaGreatDoor.Add

/-- All conses, whether or not they fail. -/
def foldC (lim : Nat) : List Wd → Wd → Obs → Wd × Obs
  | [], w, ob => (w, ob)
  | x :: l, w, ob => foldC lim l (addO ob lim (.cons x w)).1 (addO ob lim (.cons x w)).2.2
theorem foldC_append (lim : Nat) (l m : List Wd) (w : Wd) (ob : Obs) : foldC lim (l ++ m) w ob = foldC lim m (foldC lim l w ob).1 (foldC lim l w ob).2 := by
  induction l generalizing w ob with
  | nil => rfl
  | cons x l ih => simp only [List.cons_append, foldC]; exact ih _ _
/-- There is room for n conses. -/
def Fits (ob : Obs) (lim n : Nat) : Prop := manyTo ob lim + n ≤ lim ∧ (0 < n → usedTo ob lim ≤ 1048576)
theorem Fits.add {ob : Obs} {lim n : Nat} (h : Fits ob lim (n + 1)) (x w : Wd) : (addO ob lim (.cons x w)).2.1 = 0 ∧ Fits (addO ob lim (.cons x w)).2.2 lim n := by
  have h1 := h.1
  have h2 := h.2 (Nat.succ_pos _)
  have hf : freeTo ob lim < lim := (freeTo_lt_iff _ _).2 (by omega)
  have hc : freeTo ob lim < lim ∧ usedTo ob lim + (Ob.cons x w).size ≤ 1048576 := ⟨hf, by simpa [Ob.size] using h2⟩
  unfold addO
  rw [if_pos hc]
  have hn := (freeTo_spec ob lim).2.2 hf
  have hm := manyTo_put ob lim (freeTo ob lim) (some (.cons x w)) hf
  have hu := usedTo_put ob lim (freeTo ob lim) (some (.cons x w)) hf
  rw [hn] at hm hu
  simp [sizeO, Ob.size] at hm hu
  exact ⟨rfl, by show manyTo (put ob (freeTo ob lim) (some (.cons x w))) lim + n ≤ lim; omega, fun _ => by show usedTo (put ob (freeTo ob lim) (some (.cons x w))) lim ≤ _; omega⟩
theorem add_fits {ob : Obs} {lim n : Nat} {x w : Wd} (h0 : (addO ob lim (.cons x w)).2.1 = 0) (h : Fits (addO ob lim (.cons x w)).2.2 lim n) : Fits ob lim (n + 1) := by
  unfold addO at h0 h
  split at h0
  · rename_i hc
    rw [if_pos hc] at h
    obtain ⟨hf, hs⟩ := hc
    have hn := (freeTo_spec ob lim).2.2 hf
    have hm := manyTo_put ob lim (freeTo ob lim) (some (.cons x w)) hf
    rw [hn] at hm
    simp at hm
    have h1 : manyTo (put ob (freeTo ob lim) (some (.cons x w))) lim + n ≤ lim := h.1
    exact ⟨by omega, fun _ => by omega⟩
  · simp at h0
/-- What does not fail has room. -/
theorem consR_fits {lim : Nat} : ∀ {l : List Wd} {w : Wd} {ob : Obs}, (consR lim l w ob).2.1 = 0 → manyTo ob lim ≤ lim → Fits ob lim l.length
  | [], _, _, _, hm => ⟨hm, fun h => absurd h (by simp)⟩
  | x :: l, w, ob, h, hm => by
    unfold consR at h
    split at h
    · rename_i h0
      exact add_fits h0 (consR_fits h (manyTo_le _ _))
    · rename_i h0
      exact (h0 h).elim
theorem consR_fold {lim : Nat} : ∀ {l : List Wd} {w : Wd} {ob : Obs}, Fits ob lim l.length → consR lim l w ob = ((foldC lim l w ob).1, 0, (foldC lim l w ob).2)
  | [], _, _, _ => rfl
  | x :: l, w, ob, h => by
    have := h.add x w
    unfold consR foldC
    rw [if_pos this.1]
    exact consR_fold this.2
theorem consR_err {lim : Nat} : ∀ {l : List Wd} {w : Wd} {ob : Obs}, (consR lim l w ob).2.1 = 0 ∨ (consR lim l w ob).2.1 = 7
  | [], _, _ => .inl rfl
  | x :: l, w, ob => by
    unfold consR
    split
    · exact consR_err
    · rename_i h0
      right
      unfold addO at h0 ⊢
      split
      · rename_i hc; rw [if_pos hc] at h0; exact (h0 rfl).elim
      · rfl
theorem Fits.fold {lim n : Nat} : ∀ {l : List Wd} {w : Wd} {ob : Obs}, Fits ob lim (l.length + n) → Fits (foldC lim l w ob).2 lim n
  | [], _, _, h => by simpa [foldC] using h
  | x :: l, w, ob, h => by
    have h' : Fits ob lim ((l.length + n) + 1) := by
      have e : (x :: l).length + n = l.length + n + 1 := by simp; omega
      rwa [e] at h
    exact Fits.fold (l := l) (w := (addO ob lim (.cons x w)).1) (ob := (addO ob lim (.cons x w)).2.2) (h'.add x w).2
end Go.Proofs.YtlibdhnlmekmhaaGreatDoor.Rd
end

/- The contracts of slices.Backward at words, and of its closure. -/
section
namespace Go.Proofs.YtlibdhnlmekmhaaGreatDoor.Rd
open Go.RowKit Go.Maps Go.Lib Go.Shelf
open Go.Proofs.YtlibdhnlmekmhaaGreatDoor.Own Go.Proofs.YtlibdhnlmekmhaaGreatDoor.Hp Go.Proofs.YtlibdhnlmekmhaaGreatDoor.Rep Go.Proofs.YtlibdhnlmekmhaaGreatDoor.Get Go.Proofs.YtlibdhnlmekmhaaGreatDoor.Add Go.Proofs.YtlibdhnlmekmhaaGreatDoor.Make Go.Proofs.YtlibdhnlmekmhaaGreatDoor.Strs
set_option maxRecDepth 100000
attribute [local go_sem] Oper.semAt_some

/-- The indexes that have come when k are left. -/
def dn (L k : Nat) : List Nat := ((List.range L).drop k).reverse
theorem dn_none (L : Nat) : dn L L = [] := by simp [dn]
theorem dn_succ {L k : Nat} (h : k < L) : dn L k = dn L (k + 1) ++ [k] := by
  unfold dn
  rw [List.drop_eq_getElem_cons (by simpa using h)]
  simp
theorem dn_length (L k : Nat) : (dn L k).length = L - k := by simp [dn]

/-- What a round of a loop over bindings keeps: the row of bindings and the box of the slice. -/
def KeepB (g Bs : Nat) (W W' : World) : Prop := W'.heap[g]? = W.heap[g]? ∧ W'.heap[Bs]? = W.heap[Bs]?
theorem KeepB.t {g Bs : Nat} {X Y Z : World} (h : KeepB g Bs X Y) (k : KeepB g Bs Y Z) : KeepB g Bs X Z := ⟨k.1.trans h.1, k.2.trans h.2⟩
theorem KeepB.refl (g Bs : Nat) (X : World) : KeepB g Bs X X := ⟨rfl, rfl⟩
theorem KeepB.b {g Bs : Nat} {w : World} (hg : g < w.heap.size) (hB : Bs < w.heap.size) (W : World) (l : Nat) (o o' : Obj) (hl : w.heap.size ≤ l) (_h : W.heap[l]? = some o) (_ : o.isCells = false) (_ : o.isWalk = false) : KeepB g Bs W (W.putObj l o') :=
  ⟨World.putObj_heap_other (by omega), World.putObj_heap_other (by omega)⟩

theorem backward_any (F : Fence) (n : Nat) (hf : F.fn 144) (hro : F.round = none) (a : Option Addr) (len cap : Nat) (w : World) :
    CallsIn F n Tryz.prog 144 #[.slice a len cap] w fun e w' => e = .returned (.func (.func 185) #[] #[ptr w.heap.size]) ∧ w' = w.alloc (.cells #[.slice a len cap] 36) := by
  refine callsIn_of_wp Tryz.func144 rfl hf ?_ hro
  simp only [Tryz.ntmps144, List.size_toArray, List.length_cons, List.length_nil, Nat.reduceAdd, Nat.reduceSub, Array.replicate_succ, Array.replicate_zero, List.push_toArray, List.append_toArray, List.nil_append, List.cons_append]
  gi_wp2
  go_ret
  exact ⟨rfl, rfl⟩

set_option maxHeartbeats 2000000 in
theorem back1_nil (F : Fence) (n : Nat) (hf : F.fn 185) (hro : F.round = none) (l Bs cap : Nat) (A : Option Addr) (J : List Nat → World → Prop) (W : World) (hBs : W.cell? ⟨Bs, 0, none⟩ = some (.slice A 0 cap)) (h0 : J [] W) :
    CallsIn F n Tryz.prog 185 #[.func (.yield l) #[] #[], ptr Bs] W fun e W' => (∃ v, e = .returned v) ∧ J [] W' := by
  refine callsIn_of_wp Tryz.func185 rfl hf ?_ hro
  simp only [Tryz.ntmps185, List.size_toArray, List.length_cons, List.length_nil, Nat.reduceAdd, Nat.reduceSub, Array.replicate_succ, Array.replicate_zero, List.push_toArray, List.append_toArray, List.nil_append, List.cons_append]
  gi_wp2
  gi_loopw [3] (fun i wr => i = .int .i64 (-1) ∧ J [] wr) (fun _ _ => 0)
  case atStart => exact ⟨rfl, h0⟩
  case round =>
    obtain ⟨rfl, hJs⟩ := hrel
    gi_wp2
    go_end0
    exact ⟨⟨_, rfl⟩, hJs⟩

set_option maxHeartbeats 2000000 in
theorem back1_in (F : Fence) (n : Nat) (hf : F.fn 185) (hro : F.round = none) (hn : 1 ≤ n) (l Bs g o L cap : Nat) (b : Nat → Wd) (hL : L ≤ 1000000) (J Jx : List Nat → World → Prop)
    (hY : ∀ pre (j : Nat) W, J pre W → pre.length < L → YieldAt F (n - 1) Tryz.prog l #[.int .i64 (j : Int), wd (b j)] W fun e W' =>
      (e = .returned (.bool true) ∧ J (pre ++ [j]) W' ∧ KeepB g Bs W W') ∨ (e = .returned (.bool false) ∧ Jx (pre ++ [j]) W'))
    (W : World) (hBs : W.cell? ⟨Bs, 0, none⟩ = some (.slice (some ⟨g, o, none⟩) L cap))
    (hc : ∀ W' : World, W'.heap[g]? = W.heap[g]? → ∀ j, j < L → W'.cell? ⟨g, o + j * 2, none⟩ = some (.int .i64 (b j).1) ∧ W'.cell? ⟨g, o + j * 2 + 1, none⟩ = some (.int .i64 (b j).2)) (h0 : J [] W) :
    CallsIn F n Tryz.prog 185 #[.func (.yield l) #[] #[], ptr Bs] W fun e W' => (∃ v, e = .returned v) ∧
      ((∃ ys, ys = dn L 0 ∧ J ys W') ∨ (∃ pre, Jx pre W')) := by
  refine callsIn_of_wp Tryz.func185 rfl hf ?_ hro
  simp only [Tryz.ntmps185, List.size_toArray, List.length_cons, List.length_nil, Nat.reduceAdd, Nat.reduceSub, Array.replicate_succ, Array.replicate_zero, List.push_toArray, List.append_toArray, List.nil_append, List.cons_append]
  have HC := Lib.hid hc
  clear hc
  gi_wp2
  gi_loopw [3] (fun i wr => ∃ (k : Nat) (z : Int), z + 1 = k ∧ k ≤ L ∧ i = .int .i64 z ∧ J (dn L k) wr ∧ KeepB g Bs W wr)
    (fun i _ => (intOf i + 1).toNat)
  case atStart => exact ⟨L, (L : Int) - 1, by omega, Nat.le_refl _, rfl, by rw [dn_none]; exact h0, .refl _ _ _⟩
  case round =>
    obtain ⟨k, z, hz, hk, rfl, hJs, hnx⟩ := hrel
    have hBw : wr.cell? ⟨Bs, 0, none⟩ = some (.slice (some ⟨g, o, none⟩) L cap) := by
      rw [← hBs]
      simp only [World.cell?, hnx.2]
    cases k with
    | zero =>
      obtain rfl : z = -1 := by omega
      clear hz
      gi_wp2
      go_end0
      exact ⟨⟨_, rfl⟩, .inl ⟨_, rfl, hJs⟩⟩
    | succ j =>
      obtain rfl : z = (j : Int) := by omega
      clear hz
      obtain ⟨e0, e1⟩ := HC.out wr hnx.1 j (by omega)
      obtain ⟨fn, tmps, assign, body, hy, hR⟩ := hY _ j wr hJs (by rw [dn_length]; omega)
      have hlt : j < L := by omega
      gi_wp2
      refine hR.mono ?_
      rintro e W3 (⟨rfl, hJ3, hk3⟩ | ⟨rfl, hJx3⟩)
      · gi_wp2
        go_roundw
        case rel => exact ⟨j, (j : Int) - 1, by omega, by omega, rfl, by rw [dn_succ hlt]; exact hJ3, hnx.t hk3⟩
        case measure => simp [intOf]
      · gi_wp2
        refine bodyPost_ret (results_none rfl _ _ _) rfl ?_
        exact ⟨⟨_, rfl⟩, .inr ⟨_, hJx3⟩⟩

theorem back_stops (F : Fence) (n : Nat) (hf : F.fn 185) (hro : F.round = none) (hn : 1 ≤ n) (Bs g o L cap : Nat) (b : Nat → Wd) (hL : L ≤ 1000000) (w : World) (hBl : Bs < w.heap.size) (hgl : g < w.heap.size)
    (hBs : w.cell? ⟨Bs, 0, none⟩ = some (.slice (some ⟨g, o, none⟩) L cap))
    (hc : ∀ W' : World, W'.heap[g]? = w.heap[g]? → ∀ j, j < L → W'.cell? ⟨g, o + j * 2, none⟩ = some (.int .i64 (b j).1) ∧ W'.cell? ⟨g, o + j * 2 + 1, none⟩ = some (.int .i64 (b j).2)) :
    SeqStopsK F n Tryz.prog 185 #[ptr Bs] (fun j : Nat => #[.int .i64 (j : Int), wd (b j)]) (KeepB g Bs) (fun ys => ys = dn L 0) (fun _ => True) L w := fun l J Jx W hW _ _ hY h0 => by
  refine (back1_in F n hf hro hn l Bs g o L cap b hL J Jx hY W ((hW.cell (p := ⟨Bs, 0, none⟩) hBl).trans hBs) (fun W' hW' => hc W' (hW'.trans (hW.block g hgl))) h0).mono ?_
  rintro e W' ⟨he, h | ⟨pre, h⟩⟩
  · exact ⟨he, .inl h⟩
  · exact ⟨he, .inr ⟨pre, trivial, h⟩⟩
theorem back_stops_nil (F : Fence) (n : Nat) (hf : F.fn 185) (hro : F.round = none) (Bs g cap : Nat) (A : Option Addr) (b : Nat → Wd) (w : World) (hBl : Bs < w.heap.size)
    (hBs : w.cell? ⟨Bs, 0, none⟩ = some (.slice A 0 cap)) :
    SeqStopsK F n Tryz.prog 185 #[ptr Bs] (fun j : Nat => #[.int .i64 (j : Int), wd (b j)]) (KeepB g Bs) (fun ys => ys = dn 0 0) (fun _ => True) 0 w := fun l J _ W hW _ _ _ h0 =>
  (back1_nil F n hf hro l Bs cap A J W ((hW.cell (p := ⟨Bs, 0, none⟩) hBl).trans hBs) h0).mono fun _ _ ⟨he, hj⟩ => ⟨he, .inl ⟨_, rfl, hj⟩⟩
end Go.Proofs.YtlibdhnlmekmhaaGreatDoor.Rd
end
