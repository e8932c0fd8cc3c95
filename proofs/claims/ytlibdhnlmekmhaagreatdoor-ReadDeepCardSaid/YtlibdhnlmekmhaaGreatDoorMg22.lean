/- The contract of tail. | The contract of elements. -/
import Derived.Test.YtlibdhnlmekmhaaGreatDoorMg21
/- The contract of tail. -/
section
namespace Go.Proofs.YtlibdhnlmekmhaaGreatDoor.Rd
set_option maxRecDepth 100000
open Go.RowKit
open Go.Proofs.YtlibdhnlmekmhaaGreatDoor.Own Go.Proofs.YtlibdhnlmekmhaaGreatDoor.Hp Go.Proofs.YtlibdhnlmekmhaaGreatDoor.Rep Go.Proofs.YtlibdhnlmekmhaaGreatDoor.Get Go.Proofs.YtlibdhnlmekmhaaGreatDoor.Add Go.Proofs.YtlibdhnlmekmhaaGreatDoor.Make Go.Proofs.YtlibdhnlmekmhaaGreatDoor.Utf Go.Proofs.YtlibdhnlmekmhaaGreatDoor.Strs Go.Proofs.YtlibdhnlmekmhaaGreatDoor.Clone
open Go.Proofs.YtlibdhnlmekmhaaGreatDoor.Nt hiding Wd

def retT (acc : List Wd) (p : List Wd × Wd) (e : Ending) (_ : World) (_ : Nat → Prop) : Prop := e = .returned (wd p.2) ∧ p.1 = acc

set_option maxHeartbeats 2000000 in
theorem PS.tail {X : Fx} {w : World} {a op : Nat} {s : St} {F : Nat → Prop} (h : PS X w a op s F) (hX : X.Ok) {c0 : Int} {t : List Int} (hr : s.rest = c0 :: t) (acc : List Wd)
    {G : St → Res Wd} (hG : Runs X 68 op t.length retW G) (hnf : NF (tailG G acc ⟨t, s.ob, s.tb⟩)) :
    Calls Tryz.prog 193 #[pptr X.p] w (Out X w op F (retT acc) (tailG G acc ⟨t, s.ob, s.tb⟩)) := by
  have h1 := h.alloc wbox0
  have hM := h.mine (Nat.le_refl _)
  obtain ⟨r, hrr⟩ : ∃ r, w.heap.size = r := ⟨_, rfl⟩
  have hB1 : Blk (w.alloc wbox0) r #[.int .i64 0, .int .i64 0] 28 := by rw [← hrr]; exact Blk.new w _ _
  rw [hrr] at hM
  have HR := Lib.hid hrr
  have hat := h1.at_
  rw [hr] at hat
  obtain ⟨hd, hle⟩ := drop_tail hat
  have hm := h1.move hX (a + 1) hle (.int .i64 ((a : Int) + 1)) (by simp)
  rw [hd] at hm
  obtain ⟨_, _, _, c3, _, _⟩ := Blk.six h1.blk
  have f3 := h1.blk.free 3
  have hs := hX.short
  have hb0 : (a : Int) + 1 ≤ 1000000 := by omega
  have hB2 := hm.2.blk hB1 hM.f hM.p
  have HM2 := Lib.hid (hM.later hm.2 hB1.lt)
  obtain ⟨w2, hw2⟩ : ∃ w2, (w.alloc wbox0).setCell ⟨X.p, 3, none⟩ (.int .i64 ((a : Int) + 1)) = w2 := ⟨_, rfl⟩
  rw [hw2] at hm hB2
  have HP2 := Lib.hid hm.1
  have HA2 := Lib.hid ((PAfter.of_below (bel_box w wbox0)).trans hm.2)
  have HB2 := Lib.hid hB2.1
  have HX := Lib.hid hX
  unfold tailG at hnf ⊢
  cases hq : G ⟨t, s.ob, s.tb⟩ with
  | err c m ob tb =>
    have HG := Lib.hid (hG _ _ _ _ hm.1 (Nat.le_refl _) (by rw [hq] at hnf ⊢; exact hnf))
    rw [hq] at HG
    dsimp only
    clear h h1 hM hB1 hrr hat hr hd hle hm hB2 hs hX hnf hG hq
    go_enter Tryz.func193, Tryz.ntmps193
    go_wp2_with fail
    refine HG.out.mono ?_
    rintro e w3 ⟨rfl, F', hH, hA⟩
    have HH := Lib.hid (And.intro hH (HA2.out.trans hA))
    clear hH hA
    unfold faultE
    go_wp2_with fail
    exact ⟨rfl, rfl, F', HH.out.1, HH.out.2⟩
  | ok x s2 =>
    have HG := Lib.hid (hG _ _ _ _ hm.1 (Nat.le_refl _) (by rw [hq]; trivial))
    rw [hq] at HG
    dsimp only
    cases hsk : skipF false s2.rest with
    | nil =>
      dsimp only
      have HSk := Lib.hid hsk
      clear h h1 hM hB1 hrr hat hr hd hle hm hB2 hs hX hnf hG hq hsk
      go_enter Tryz.func193, Tryz.ntmps193
      go_wp2_with fail
      refine HG.out.mono ?_
      rintro e w3 ⟨a3, F3, rfl, hP, hA⟩
      have HP3 := Lib.hid (hP.alloc (.cells #[.int .i64 x.1, .int .i64 x.2] 28))
      have HA3 := Lib.hid ((HA2.out.trans hA).then_below (bel_box w3 (.cells #[.int .i64 x.1, .int .i64 x.2] 28)))
      clear hP hA
      go_wp2_with fail
      refine (HP3.out.skip HX.out).mono ?_
      rintro e w4 ⟨rfl, a4, q, hP, hA, rfl⟩
      rw [HSk.out] at hP
      have HT := Lib.hid (hP.takeEnd HX.out rfl)
      have HP4 := Lib.hid hP
      have HA4 := Lib.hid (HA3.out.trans hA)
      clear hP hA
      go_wp2_with fail
      refine HT.out.mono ?_
      rintro e w6 ⟨rfl, rfl⟩
      unfold faultE
      go_wp2_with fail
      exact ⟨rfl, rfl, F3, HP4.out.ht, HA4.out⟩
    | cons d q =>
      dsimp only
      have HSk := Lib.hid hsk
      by_cases e41 : d = 41
      · subst e41
        rw [if_pos rfl]
        clear h h1 hM hB1 hrr hat hr hd hle hm hB2 hs hX hnf hG hq hsk
        go_enter Tryz.func193, Tryz.ntmps193
        go_wp2_with fail
        rw [HR.out]
        refine HG.out.mono ?_
        rintro e w3 ⟨a3, F3, rfl, hP, hA⟩
        have hm3 := hP.mine (Nat.le_refl _)
        obtain ⟨b3, hb3⟩ : ∃ b, w3.heap.size = b := ⟨_, rfl⟩
        have hbb := Blk.new w3 #[.int .i64 x.1, .int .i64 x.2] 28
        obtain ⟨W3, hW3⟩ : ∃ W, w3.alloc (.cells #[.int .i64 x.1, .int .i64 x.2] 28) = W := ⟨_, rfl⟩
        have hbw : Below w3.heap.size w3 W3 := by rw [← hW3]; exact bel_box _ _
        rw [hb3] at hm3 hbb
        rw [hW3] at hbb
        have HM3 := Lib.hid hm3
        have HBb := Lib.hid hbb
        have HP3 := Lib.hid (hP.later hbw)
        have HA3 := Lib.hid (hA.then_below hbw)
        clear hP hA hm3 hbb hbw
        go_wp2_with fail
        clear hW3 hb3
        refine (HP3.out.skip HX.out).mono ?_
        rintro e w4 ⟨rfl, a4, q4, hP, hA, rfl⟩
        rw [HSk.out] at hP
        have HT := Lib.hid (hP.take HX.out rfl)
        have HA4 := Lib.hid hA
        clear hP hA
        go_wp2_with fail
        refine HT.out.mono ?_
        rintro e w5 ⟨rfl, hP, hA⟩
        have hA35 := HA4.out.trans hA
        have hA25 := HA3.out.trans hA35
        have hbb := (hA35.blk HBb.out HM3.out.f HM3.out.p).1
        have hbr := (hA25.blk HB2.out HM2.out.f HM2.out.p).1
        obtain ⟨g0, g1, _, _⟩ := hbb.two
        obtain ⟨b0, b1, b2, b3⟩ := hbr.two
        have HP5 := Lib.hid hP
        have HA5 := Lib.hid (HA2.out.trans hA25)
        have HM5 := Lib.hid (HM2.out.later hA25 HB2.out.lt)
        clear hP hA hA35 hA25 hbb hbr
        go_wp2_with fail
        have hf := HP5.out.put2 HM5.out HA5.out (Nat.le_of_eq HR.out) (.int .i64 x.1) (.int .i64 x.2)
        refine bodyPost_ret (v := wd x) (by simp [results, Tryz.results193, go_sem, b0, b1, b2, b3]) rfl ⟨_, F3, ⟨rfl, rfl⟩, hf.1, hf.2⟩
      · rw [if_neg e41]
        have n41 : (d != 41) = true := by simpa using e41
        obtain ⟨R0, hR0⟩ : ∃ R0, (Res.err 5 (q.length + 1) s2.ob s2.tb : Res (List Wd × Wd)) = R0 := ⟨_, rfl⟩
        rw [hR0]
        have HR0 := Lib.hid hR0
        clear hR0
        clear h h1 hM hB1 hrr hat hr hd hle hm hB2 hs hX hnf hG hq hsk e41
        go_enter Tryz.func193, Tryz.ntmps193
        go_wp2_with fail
        refine HG.out.mono ?_
        rintro e w3 ⟨a3, F3, rfl, hP, hA⟩
        have HP3 := Lib.hid (hP.alloc (.cells #[.int .i64 x.1, .int .i64 x.2] 28))
        have HA3 := Lib.hid ((HA2.out.trans hA).then_below (bel_box w3 (.cells #[.int .i64 x.1, .int .i64 x.2] 28)))
        clear hP hA
        go_wp2_with fail
        refine (HP3.out.skip HX.out).mono ?_
        rintro e w4 ⟨rfl, a4, q4, hP, hA, rfl⟩
        rw [HSk.out] at hP
        have HT := Lib.hid (hP.take HX.out rfl)
        have hnn := hP.n
        have hpp := hP.pos
        have HA4 := Lib.hid (HA3.out.trans hA)
        clear hP hA
        go_wp2_with fail
        refine HT.out.mono ?_
        rintro e w5 ⟨rfl, hP, hA⟩
        obtain ⟨_, _, _, c3, _, _⟩ := Blk.six hP.blk
        have hn5 := hP.n
        have hsz := HX.out.short
        obtain ⟨y, hy⟩ : ∃ y : Int, ((a4 + 1 : Nat) : Int) = y := ⟨_, rfl⟩
        have HY : Hid (y - 1 = (a4 : Int)) := by show _ - _ = _; omega
        have HPp := Lib.hid hpp
        have hy1 : 1 ≤ y := by omega
        have hy2 : y ≤ 1000001 := by omega
        rw [hy] at c3
        have HP5 := Lib.hid hP
        have HA5 := Lib.hid (HA4.out.trans hA)
        clear hP hA hy hnn hpp hn5 hsz
        go_wp2_with fail
        refine ⟨rfl, ?_⟩
        rw [← HR0.out]
        refine ⟨?_, F3, HP5.out.ht, HA5.out⟩
        have hpp := HPp.out
        simp only [List.length_cons] at hpp
        rw [HY.out, hpp]
        rfl
end Go.Proofs.YtlibdhnlmekmhaaGreatDoor.Rd
end

/- The contract of elements. -/
section
namespace Go.Proofs.YtlibdhnlmekmhaaGreatDoor.Rd
set_option maxRecDepth 100000
open Go.RowKit
open Go.Proofs.YtlibdhnlmekmhaaGreatDoor.Own Go.Proofs.YtlibdhnlmekmhaaGreatDoor.Hp Go.Proofs.YtlibdhnlmekmhaaGreatDoor.Rep Go.Proofs.YtlibdhnlmekmhaaGreatDoor.Get Go.Proofs.YtlibdhnlmekmhaaGreatDoor.Add Go.Proofs.YtlibdhnlmekmhaaGreatDoor.Make Go.Proofs.YtlibdhnlmekmhaaGreatDoor.Utf Go.Proofs.YtlibdhnlmekmhaaGreatDoor.Strs Go.Proofs.YtlibdhnlmekmhaaGreatDoor.Clone
open Go.Proofs.YtlibdhnlmekmhaaGreatDoor.Nt hiding Wd

/-- A row of words that a method has made. -/
structure Els (X : Fx) (w : World) (F : Nat → Prop) (v : Value) (l : List Wd) : Prop where
  row : w.ownsRow X.w0.heap.size 28 2 v l.length (wcells l)
  mine : ∀ g, v.ownBlock = some g → Mine X w F g
def retE (X : Fx) (p : List Wd × Wd) (e : Ending) (w : World) (F : Nat → Prop) : Prop := ∃ A c, e = .returned (.tuple #[.slice A p.1.length c, wd p.2]) ∧ Els X w F (.slice A p.1.length c) p.1
theorem owns_low {w : World} {b0 b1 : Nat} {e : TypeId} {size n : Nat} {v : Value} {xs : List Value} (h : w.ownsRow b1 e size v n xs) (hb : b0 ≤ b1) : w.ownsRow b0 e size v n xs := by
  refine ⟨h.1, ?_⟩
  rcases h.2 with h0 | ⟨g, cap, cur, hv, hbg, rest⟩
  · exact .inl h0
  · exact .inr ⟨g, cap, cur, hv, Nat.le_trans hb hbg, rest⟩
/-- The box r of the result is written at the end. -/
theorem PR.ends {X : Fx} {w w1 wr : World} {a op r : Nat} {s : St} {F F1 : Nat → Prop} {A : Option Addr} {c : Nat} {l : List Wd} {y : Wd} (h : PR X w1 wr a op s F F1 (.slice A l.length c) l) (hA : PAfter X w w1 F F) (hM : Mine X w F r) (hB : Blk w1 r #[.int .i64 0, .int .i64 0] 28) (hr : w.heap.size ≤ r) :
    Out X w op F (retE X) (.ok (l, y) s) (.returned (.tuple #[.slice A l.length c, wd y])) ((wr.setCell ⟨r, 0, none⟩ (.int .i64 y.1)).setCell ⟨r, 1, none⟩ (.int .i64 y.2)) := by
  have hM2 := hM.later h.aft hB.lt
  have hf := h.ps.put2 hM2 (hA.trans h.aft) hr (.int .i64 y.1) (.int .i64 y.2)
  have hk : Keeps (fun q => q = r) wr ((wr.setCell ⟨r, 0, none⟩ (.int .i64 y.1)).setCell ⟨r, 1, none⟩ (.int .i64 y.2)) := (keeps_set wr r 0 _).trans (keeps_set _ r 1 _)
  refine ⟨a, F1, ⟨A, c, rfl, ⟨owns_low (b1 := w1.heap.size) ?_ ?_, ?_⟩⟩, hf.1, hf.2⟩
  · refine owns_keeps h.row hk fun g hg e => ?_
    subst e
    have h1 := (h.row.lt _ hg).1
    have h2 := hB.lt
    omega
  · have := hM.low
    have := hB.lt
    omega
  · intro g hg
    have := h.mine g hg
    exact ⟨this.f, this.p, this.g, this.m, this.low⟩
/-- Between two rounds: the elements so far. -/
def ElAt (X : Fx) (w2 wr : World) (op k : Nat) (F : Nat → Prop) (R : Res (List Wd × Wd)) (u : Value) : Prop :=
  ∃ (l : List Wd) (a' : Nat) (r : List Int) (ob : Obs) (tb : Tb) (F' : Nat → Prop) (j : Nat),
    PR X w2 wr a' op ⟨r, ob, tb⟩ F F' u l ∧ skipF false r = r ∧ elemM X.lim j op l ⟨r, ob, tb⟩ = R ∧ 2 * r.length + 2 ≤ j ∧ j ≤ k ∧ l.length + r.length ≤ X.l.length
theorem ElAt.skip {X : Fx} {w2 wr wq : World} {a op k j : Nat} {s : St} {F F1 : Nat → Prop} {R : Res (List Wd × Wd)} {u : Value} {l : List Wd} (h : PR X w2 wr a op s F F1 u l) (hR : elemM X.lim j op l s = R) (hj : 2 * s.rest.length + 2 ≤ j) (hk : j ≤ k) (hl : l.length + s.rest.length ≤ X.l.length)
    (hA : At X wr wq op s F1 (fun r => r = skipF false s.rest)) : ElAt X w2 wq op k F R u := by
  obtain ⟨a', r, hP, hA, rfl⟩ := hA
  have := (skipF_suf s.rest false).length_le
  exact ⟨l, a', skipF false s.rest, s.ob, s.tb, F1, j, h.act hP hA, skipF_skipF _ _, by rw [elemM_skip]; exact hR, by omega, hk, by omega⟩
theorem dotB_eq (l : List Wd) (q : List Int) : dotB l q = true ↔ l ≠ [] ∧ nx q = 46 ∧ endsB (q.drop 1) = true := by
  unfold dotB
  cases l <;> cases q <;> simp [nx, endsB]

set_option maxHeartbeats 8000000 in
theorem PS.elements {X : Fx} {w : World} {a op : Nat} {s : St} {F : Nat → Prop} (h : PS X w a op s F) (hX : X.Ok)
    {k : Nat} (hk : 2 * s.rest.length + 2 ≤ k) (hF : ∀ j, j < k → FormOk X j) (hnf : NF (elemM X.lim k op [] s)) :
    Calls Tryz.prog 165 #[pptr X.p] w (Out X w op F (retE X) (elemM X.lim k op [] s)) := by
  have h1 := h.alloc wbox0
  have hM := h.mine (Nat.le_refl _)
  have hA1 : PAfter X w (w.alloc wbox0) F F := .of_below (bel_box _ _)
  obtain ⟨r, hrr⟩ : ∃ r, w.heap.size = r := ⟨_, rfl⟩
  have hB1 : Blk (w.alloc wbox0) r #[.int .i64 0, .int .i64 0] 28 := by rw [← hrr]; exact Blk.new w _ _
  rw [hrr] at hM
  have HR := Lib.hid hrr
  obtain ⟨R, hR⟩ : ∃ R, elemM X.lim k op [] s = R := ⟨_, rfl⟩
  rw [hR] at hnf ⊢
  have hn := h.n
  have HNF := Lib.hid hnf
  have HX := Lib.hid hX
  have HRe := Lib.hid hR
  have HF := Lib.hid hF
  have HK := Lib.hid hk
  have HLn := Lib.hid (show s.rest.length ≤ X.l.length by omega)
  have HM := Lib.hid hM
  obtain ⟨w2, hw2⟩ : ∃ w2, w.alloc wbox0 = w2 := ⟨_, rfl⟩
  rw [hw2] at h1 hA1 hB1
  have HP2 := Lib.hid h1
  have HA1 := Lib.hid hA1
  have HB1 := Lib.hid hB1
  obtain ⟨i0, hi, hz0, hz1, hz2⟩ := info_parts word_info
  have HI := Lib.hid hi
  have HZ0 := Lib.hid hz0
  have HZ1 := Lib.hid hz1
  have HZ2 := Lib.hid hz2
  clear hi hz0 hz1 hz2
  clear h h1 hM hA1 hB1 hnf hF hk hR hn hX
  go_enter Tryz.func165, Tryz.ntmps165
  go_wp2_with fail
  refine (HP2.out.skip HX.out).mono ?_
  rintro e w3 ⟨rfl, hat⟩
  have HV := Lib.hid (ElAt.skip (PR.start HP2.out) HRe.out HK.out (Nat.le_refl _) (by simpa using HLn.out) hat)
  clear hat
  go_wp2_with fail
  clear hw2 hrr
  go_loopw [4] (fun u wr => ElAt X w2 wr op k F R u) (fun _ wr => X.l.length - atOf wr X.p)
  case atStart => exact HV.out
  case round =>
    obtain ⟨l, a1, q, ob, tb, F1, j, hPR, hsk, hj, hj2, hjk, hll⟩ := hrel
    have hs := HX.out.short
    obtain ⟨A0, cp0, rfl⟩ := hPR.len
    have HPR := Lib.hid hPR
    have HNx := Lib.hid (hPR.ps.next HX.out)
    have hend := hPR.ps.ends HX.out 1 (by omega) ((a1 : Int) + 1) (by omega)
    have hn1 := nx_head (l := q) (c := 41) (by omega)
    obtain ⟨v, hv⟩ : ∃ v, nx q = v := ⟨_, rfl⟩
    dsimp only at HNx hend
    rw [hv] at HNx hn1
    obtain ⟨i, rfl⟩ : ∃ i, j = i + 1 := ⟨j - 1, by omega⟩
    rw [elemM_succ] at hj
    unfold elemG at hj
    simp only [hsk] at hj
    have hle1 := hPR.ps.le
    have hb3 : (a1 : Int) + 1 ≤ 1000001 := by omega
    obtain ⟨_, _, _, c3, _, _⟩ := Blk.six hPR.ps.blk
    by_cases e41 : v = 41
    · subst e41
      rw [if_pos (hn1.1 rfl)] at hj
      obtain ⟨t2, rfl⟩ : ∃ t2, q = 41 :: t2 := by
        cases q with
        | nil => simp [nx] at hv
        | cons d t2 => simp [nx] at hv; exact ⟨t2, by rw [hv]⟩
      have hat := hPR.ps.at_
      dsimp only at hat
      obtain ⟨hd, hle⟩ := drop_tail hat
      have hm := hPR.ps.move HX.out (a1 + 1) hle (.int .i64 ((a1 : Int) + 1)) (by simp)
      rw [hd] at hm
      have hPm := hPR.act hm.1 hm.2
      have f3 := hPR.ps.blk.free 3
      obtain ⟨W6, hW6⟩ : ∃ W, wr.setCell ⟨X.p, 3, none⟩ (.int .i64 ((a1 : Int) + 1)) = W := ⟨_, rfl⟩
      rw [hW6] at hPm
      have HPm := Lib.hid hPm
      have HJ := Lib.hid hj
      clear hPR hsk hj hj2 hjk hll hs hn1 hv hat hd hle hm hPm hend hle1
      go_wp2_with (first
        | (go_at_call 67; refine HNx.out.mono ?_; rintro e w' ⟨rfl, rfl⟩))
      refine (symbol_any 0 _).mono ?_
      rintro e w7 ⟨rfl, hb⟩
      have HP7 := Lib.hid (HPm.out.later hb)
      obtain ⟨g0, g1, g2, g3⟩ := (HP7.out.aft.blk HB1.out HM.out.f HM.out.p).1.two
      clear hb
      go_wp2_with fail
      have ho := HP7.out.ends (y := (1, 0)) HA1.out HM.out HB1.out (Nat.le_of_eq HR.out)
      rw [← HJ.out]
      exact bodyPost_ret (v := .tuple #[.slice A0 l.length cp0, wd (1, 0)]) (by simp [results, Tryz.results165, go_sem, g0, g1, g2, g3]) rfl ho
    · have hv1 : (v != 41) = true := by simpa using e41
      rw [if_neg (fun e => e41 (hn1.2 e))] at hj
      by_cases hdot : dotB l q = true
      · rw [if_pos hdot] at hj
        obtain ⟨hl0, hv46, he1⟩ := (dotB_eq l q).1 hdot
        obtain rfl : v = 46 := by rw [← hv]; exact hv46
        rw [he1] at hend
        have HE := Lib.hid hend
        obtain ⟨t2, rfl⟩ : ∃ t2, q = 46 :: t2 := by
          cases q with
          | nil => simp [nx] at hv
          | cons d t2 => simp [nx] at hv; exact ⟨t2, by rw [hv]⟩
        have hlp : 0 < l.length := List.length_pos_iff.2 hl0
        have hlpz : (0 : Int) < (l.length : Int) := by omega
        have hrn : Runs X 68 op t2.length retW (formM X.lim i op) := HF.out i (by omega) op t2.length i (Nat.le_refl _) (by simp at hj2; omega)
        rw [List.tail_cons] at hj
        have hT := hPR.ps.tail HX.out rfl l hrn (by dsimp only; rw [hj]; exact HNF.out)
        dsimp only at hT
        rw [hj] at hT
        have HT := Lib.hid hT
        clear hPR hsk hj hj2 hjk hll hs hn1 hv hend hle1 hdot hl0 hv46 he1 hrn hT e41
        cases R with
        | err c m ob' tb' =>
          go_wp2_with (first
            | (go_at_call 67; refine HNx.out.mono ?_; rintro e w' ⟨rfl, rfl⟩)
            | (go_at_call 169; refine HE.out.mono ?_; rintro e w' ⟨rfl, rfl⟩))
          refine HT.out.mono ?_
          rintro e w5 ⟨rfl, F', hH, hA⟩
          have HH := Lib.hid (And.intro hH (HA1.out.trans (HPR.out.aft.trans hA)))
          clear hH hA
          unfold faultE
          go_wp2_with fail
          exact ⟨rfl, rfl, F', HH.out.1, HH.out.2⟩
        | ok p s2 =>
          go_wp2_with (first
            | (go_at_call 67; refine HNx.out.mono ?_; rintro e w' ⟨rfl, rfl⟩)
            | (go_at_call 169; refine HE.out.mono ?_; rintro e w' ⟨rfl, rfl⟩))
          refine HT.out.mono ?_
          rintro e w5 ⟨a5, F5, ⟨rfl, hp1⟩, hP, hA⟩
          obtain ⟨p1, y⟩ := p
          dsimp only at hp1
          subst hp1
          have HP7 := Lib.hid (HPR.out.act hP hA)
          obtain ⟨g0, g1, g2, g3⟩ := (HP7.out.aft.blk HB1.out HM.out.f HM.out.p).1.two
          clear hP hA
          go_wp2_with fail
          have ho := HP7.out.ends (y := y) HA1.out HM.out HB1.out (Nat.le_of_eq HR.out)
          exact bodyPost_ret (v := .tuple #[.slice A0 p1.length cp0, wd y]) (by simp [results, Tryz.results165, go_sem, g0, g1, g2, g3]) rfl ho
      · rw [if_neg hdot] at hj
        obtain ⟨b, hb⟩ : ∃ b, endsB (q.drop 1) = b := ⟨_, rfl⟩
        rw [hb] at hend
        have HE := Lib.hid hend
        have hcase : l.length = 0 ∨ (0 < l.length ∧ (v == 46) = false) ∨ (0 < l.length ∧ v = 46 ∧ b = false) := by
          by_cases hl0 : l = []
          · exact .inl (by rw [hl0]; rfl)
          · have hlp : 0 < l.length := List.length_pos_iff.2 hl0
            by_cases e46 : v = 46
            · refine .inr (.inr ⟨hlp, e46, ?_⟩)
              cases hb2 : b with
              | false => rfl
              | true => exact (hdot ((dotB_eq l q).2 ⟨hl0, by rw [hv]; exact e46, by rw [hb, hb2]⟩)).elim
            · exact .inr (.inl ⟨hlp, by simpa using e46⟩)
        clear hb
        rcases hcase with hl0 | ⟨hlp, hv46⟩ | ⟨hlp, rfl, rfl⟩
        · have hlz : ¬ (0 : Int) < (l.length : Int) := by omega
          have hln : ¬ 0 < l.length := by omega
          clear hl0
          cases hq : formM X.lim i op ⟨q, ob, tb⟩ with
          | err c m ob' tb' =>
            rw [hq] at hj
            dsimp only at hj
            have hRun : NF (formM X.lim i op ⟨q, ob, tb⟩) := by
              rw [hq]
              have := HNF.out
              rw [← hj] at this
              exact this
            have HFm := Lib.hid (HF.out i (by omega) op q.length i (Nat.le_refl _) (by omega) _ _ _ _ hPR.ps (Nat.le_refl _) hRun)
            rw [hq] at HFm
            have HJ := Lib.hid hj
            clear hPR hsk hj hj2 hjk hll hs hn1 hv e41 hq hRun hend hle1 hdot
            go_wp2_with (first
              | (go_at_call 67; refine HNx.out.mono ?_; rintro e w' ⟨rfl, rfl⟩)
              | (go_at_call 169; refine HE.out.mono ?_; rintro e w' ⟨rfl, rfl⟩))
            refine HFm.out.mono ?_
            rintro e w5 ⟨rfl, F', hH, hA⟩
            have HH := Lib.hid (And.intro hH (HA1.out.trans (HPR.out.aft.trans hA)))
            clear hH hA
            unfold faultE
            go_wp2_with fail
            refine ⟨rfl, ?_⟩
            rw [← HJ.out]
            exact ⟨rfl, F', HH.out.1, HH.out.2⟩
          | ok x s2 =>
            rw [hq] at hj
            dsimp only at hj
            have hlt := (formM_lt hq).2
            have hRun : NF (formM X.lim i op ⟨q, ob, tb⟩) := by rw [hq]; trivial
            have HFm := Lib.hid (HF.out i (by omega) op q.length i (Nat.le_refl _) (by omega) _ _ _ _ hPR.ps (Nat.le_refl _) hRun)
            rw [hq] at HFm
            have HJ := Lib.hid hj
            have HLt := Lib.hid (show s2.rest.length < q.length from hlt)
            have HBn := Lib.hid (show 2 * s2.rest.length + 2 ≤ i ∧ i ≤ k ∧ (l ++ [x]).length + s2.rest.length ≤ X.l.length by
              have : s2.rest.length < q.length := hlt
              refine ⟨by omega, by omega, ?_⟩
              rw [List.length_append]
              simp
              omega)
            have HBd : Hid (l.length + 1 ≤ maxLen ∧ (l.length + 1) * 16 ≤ 140737488355328) := Lib.hid ⟨by unfold maxLen; omega, by omega⟩
            have HPa := Lib.hid hPR.ps.atIs
            have HPn := Lib.hid hPR.ps.n
            clear hPR hsk hj hj2 hjk hll hs hn1 hv e41 hq hRun hlt hend hle1 hdot
            go_wp2_with (first
              | (go_at_call 67; refine HNx.out.mono ?_; rintro e w' ⟨rfl, rfl⟩)
              | (go_at_call 169; refine HE.out.mono ?_; rintro e w' ⟨rfl, rfl⟩))
            refine HFm.out.mono ?_
            rintro e w5 ⟨a5, F5, rfl, hP, hA⟩
            have HPR5 := Lib.hid (HPR.out.act hP hA)
            clear hP hA
            go_wp2_with (at_builtin; go_loud (refine wpList_append_place rfl (.tmp 32) (.tmp 35) 36 rfl w2.heap.size 28 i0 (.agg #[.int .i64 0, .int .i64 0]) 2 16 Tryz.underlying36 HI.out HZ0.out HZ1.out HZ2.out rfl (by decide) (.slice A0 l.length cp0) l.length (wcells l) rfl (HPR5.out.later (bel_box _ _)).row ⟨_, 0, none⟩ 1 1 [.int .i64 x.1, .int .i64 x.2] rfl rfl (new_cells _ _ _ _) (new_one _ _) HBd.out.1 HBd.out.2 (Nat.le_trans HPR5.out.aft.keeps.size (bel_box _ _).size) ?_))
            intro A6 c6 w6 hap
            have HPR6 := Lib.hid ((HPR5.out.later (bel_box _ _)).push hap)
            clear hap
            go_wp2_with fail
            refine (HPR6.out.ps.skip HX.out).mono ?_
            rintro e w7 ⟨rfl, hat⟩
            have HV7 := Lib.hid (ElAt.skip HPR6.out HJ.out HBn.out.1 HBn.out.2.1 HBn.out.2.2 hat)
            have HMe : Hid (X.l.length - atOf w7 X.p < X.l.length - atOf wr X.p) := by
              obtain ⟨a7, q7, hP7, _, rfl⟩ := hat
              have e1 := hP7.atIs
              have e2 := hP7.n
              have e3 := HPa.out
              have e4 := HPn.out
              have e5 := HLt.out
              have e6 := (skipF_suf s2.rest false).length_le
              show _ - _ < _ - _
              rw [e1, e3]
              simp at e2 e4
              omega
            clear hat
            go_wp2_with fail
            go_roundw
            case rel => exact HV7.out
            case measure => exact HMe.out
        · have hlz : (0 : Int) < (l.length : Int) := by omega
          cases hq : formM X.lim i op ⟨q, ob, tb⟩ with
          | err c m ob' tb' =>
            rw [hq] at hj
            dsimp only at hj
            have hRun : NF (formM X.lim i op ⟨q, ob, tb⟩) := by
              rw [hq]
              have := HNF.out
              rw [← hj] at this
              exact this
            have HFm := Lib.hid (HF.out i (by omega) op q.length i (Nat.le_refl _) (by omega) _ _ _ _ hPR.ps (Nat.le_refl _) hRun)
            rw [hq] at HFm
            have HJ := Lib.hid hj
            clear hPR hsk hj hj2 hjk hll hs hn1 hv e41 hq hRun hend hle1 hdot
            go_wp2_with (first
              | (go_at_call 67; refine HNx.out.mono ?_; rintro e w' ⟨rfl, rfl⟩)
              | (go_at_call 169; refine HE.out.mono ?_; rintro e w' ⟨rfl, rfl⟩))
            refine HFm.out.mono ?_
            rintro e w5 ⟨rfl, F', hH, hA⟩
            have HH := Lib.hid (And.intro hH (HA1.out.trans (HPR.out.aft.trans hA)))
            clear hH hA
            unfold faultE
            go_wp2_with fail
            refine ⟨rfl, ?_⟩
            rw [← HJ.out]
            exact ⟨rfl, F', HH.out.1, HH.out.2⟩
          | ok x s2 =>
            rw [hq] at hj
            dsimp only at hj
            have hlt := (formM_lt hq).2
            have hRun : NF (formM X.lim i op ⟨q, ob, tb⟩) := by rw [hq]; trivial
            have HFm := Lib.hid (HF.out i (by omega) op q.length i (Nat.le_refl _) (by omega) _ _ _ _ hPR.ps (Nat.le_refl _) hRun)
            rw [hq] at HFm
            have HJ := Lib.hid hj
            have HLt := Lib.hid (show s2.rest.length < q.length from hlt)
            have HBn := Lib.hid (show 2 * s2.rest.length + 2 ≤ i ∧ i ≤ k ∧ (l ++ [x]).length + s2.rest.length ≤ X.l.length by
              have : s2.rest.length < q.length := hlt
              refine ⟨by omega, by omega, ?_⟩
              rw [List.length_append]
              simp
              omega)
            have HBd : Hid (l.length + 1 ≤ maxLen ∧ (l.length + 1) * 16 ≤ 140737488355328) := Lib.hid ⟨by unfold maxLen; omega, by omega⟩
            have HPa := Lib.hid hPR.ps.atIs
            have HPn := Lib.hid hPR.ps.n
            clear hPR hsk hj hj2 hjk hll hs hn1 hv e41 hq hRun hlt hend hle1 hdot
            go_wp2_with (first
              | (go_at_call 67; refine HNx.out.mono ?_; rintro e w' ⟨rfl, rfl⟩)
              | (go_at_call 169; refine HE.out.mono ?_; rintro e w' ⟨rfl, rfl⟩))
            refine HFm.out.mono ?_
            rintro e w5 ⟨a5, F5, rfl, hP, hA⟩
            have HPR5 := Lib.hid (HPR.out.act hP hA)
            clear hP hA
            go_wp2_with (at_builtin; go_loud (refine wpList_append_place rfl (.tmp 32) (.tmp 35) 36 rfl w2.heap.size 28 i0 (.agg #[.int .i64 0, .int .i64 0]) 2 16 Tryz.underlying36 HI.out HZ0.out HZ1.out HZ2.out rfl (by decide) (.slice A0 l.length cp0) l.length (wcells l) rfl (HPR5.out.later (bel_box _ _)).row ⟨_, 0, none⟩ 1 1 [.int .i64 x.1, .int .i64 x.2] rfl rfl (new_cells _ _ _ _) (new_one _ _) HBd.out.1 HBd.out.2 (Nat.le_trans HPR5.out.aft.keeps.size (bel_box _ _).size) ?_))
            intro A6 c6 w6 hap
            have HPR6 := Lib.hid ((HPR5.out.later (bel_box _ _)).push hap)
            clear hap
            go_wp2_with fail
            refine (HPR6.out.ps.skip HX.out).mono ?_
            rintro e w7 ⟨rfl, hat⟩
            have HV7 := Lib.hid (ElAt.skip HPR6.out HJ.out HBn.out.1 HBn.out.2.1 HBn.out.2.2 hat)
            have HMe : Hid (X.l.length - atOf w7 X.p < X.l.length - atOf wr X.p) := by
              obtain ⟨a7, q7, hP7, _, rfl⟩ := hat
              have e1 := hP7.atIs
              have e2 := hP7.n
              have e3 := HPa.out
              have e4 := HPn.out
              have e5 := HLt.out
              have e6 := (skipF_suf s2.rest false).length_le
              show _ - _ < _ - _
              rw [e1, e3]
              simp at e2 e4
              omega
            clear hat
            go_wp2_with fail
            go_roundw
            case rel => exact HV7.out
            case measure => exact HMe.out
        · have hlz : (0 : Int) < (l.length : Int) := by omega
          cases hq : formM X.lim i op ⟨q, ob, tb⟩ with
          | err c m ob' tb' =>
            rw [hq] at hj
            dsimp only at hj
            have hRun : NF (formM X.lim i op ⟨q, ob, tb⟩) := by
              rw [hq]
              have := HNF.out
              rw [← hj] at this
              exact this
            have HFm := Lib.hid (HF.out i (by omega) op q.length i (Nat.le_refl _) (by omega) _ _ _ _ hPR.ps (Nat.le_refl _) hRun)
            rw [hq] at HFm
            have HJ := Lib.hid hj
            clear hPR hsk hj hj2 hjk hll hs hn1 hv e41 hq hRun hend hle1 hdot
            go_wp2_with (first
              | (go_at_call 67; refine HNx.out.mono ?_; rintro e w' ⟨rfl, rfl⟩)
              | (go_at_call 169; refine HE.out.mono ?_; rintro e w' ⟨rfl, rfl⟩))
            refine HFm.out.mono ?_
            rintro e w5 ⟨rfl, F', hH, hA⟩
            have HH := Lib.hid (And.intro hH (HA1.out.trans (HPR.out.aft.trans hA)))
            clear hH hA
            unfold faultE
            go_wp2_with fail
            refine ⟨rfl, ?_⟩
            rw [← HJ.out]
            exact ⟨rfl, F', HH.out.1, HH.out.2⟩
          | ok x s2 =>
            rw [hq] at hj
            dsimp only at hj
            have hlt := (formM_lt hq).2
            have hRun : NF (formM X.lim i op ⟨q, ob, tb⟩) := by rw [hq]; trivial
            have HFm := Lib.hid (HF.out i (by omega) op q.length i (Nat.le_refl _) (by omega) _ _ _ _ hPR.ps (Nat.le_refl _) hRun)
            rw [hq] at HFm
            have HJ := Lib.hid hj
            have HLt := Lib.hid (show s2.rest.length < q.length from hlt)
            have HBn := Lib.hid (show 2 * s2.rest.length + 2 ≤ i ∧ i ≤ k ∧ (l ++ [x]).length + s2.rest.length ≤ X.l.length by
              have : s2.rest.length < q.length := hlt
              refine ⟨by omega, by omega, ?_⟩
              rw [List.length_append]
              simp
              omega)
            have HBd : Hid (l.length + 1 ≤ maxLen ∧ (l.length + 1) * 16 ≤ 140737488355328) := Lib.hid ⟨by unfold maxLen; omega, by omega⟩
            have HPa := Lib.hid hPR.ps.atIs
            have HPn := Lib.hid hPR.ps.n
            clear hPR hsk hj hj2 hjk hll hs hn1 hv e41 hq hRun hlt hend hle1 hdot
            go_wp2_with (first
              | (go_at_call 67; refine HNx.out.mono ?_; rintro e w' ⟨rfl, rfl⟩)
              | (go_at_call 169; refine HE.out.mono ?_; rintro e w' ⟨rfl, rfl⟩))
            refine HFm.out.mono ?_
            rintro e w5 ⟨a5, F5, rfl, hP, hA⟩
            have HPR5 := Lib.hid (HPR.out.act hP hA)
            clear hP hA
            go_wp2_with (at_builtin; go_loud (refine wpList_append_place rfl (.tmp 32) (.tmp 35) 36 rfl w2.heap.size 28 i0 (.agg #[.int .i64 0, .int .i64 0]) 2 16 Tryz.underlying36 HI.out HZ0.out HZ1.out HZ2.out rfl (by decide) (.slice A0 l.length cp0) l.length (wcells l) rfl (HPR5.out.later (bel_box _ _)).row ⟨_, 0, none⟩ 1 1 [.int .i64 x.1, .int .i64 x.2] rfl rfl (new_cells _ _ _ _) (new_one _ _) HBd.out.1 HBd.out.2 (Nat.le_trans HPR5.out.aft.keeps.size (bel_box _ _).size) ?_))
            intro A6 c6 w6 hap
            have HPR6 := Lib.hid ((HPR5.out.later (bel_box _ _)).push hap)
            clear hap
            go_wp2_with fail
            refine (HPR6.out.ps.skip HX.out).mono ?_
            rintro e w7 ⟨rfl, hat⟩
            have HV7 := Lib.hid (ElAt.skip HPR6.out HJ.out HBn.out.1 HBn.out.2.1 HBn.out.2.2 hat)
            have HMe : Hid (X.l.length - atOf w7 X.p < X.l.length - atOf wr X.p) := by
              obtain ⟨a7, q7, hP7, _, rfl⟩ := hat
              have e1 := hP7.atIs
              have e2 := hP7.n
              have e3 := HPa.out
              have e4 := HPn.out
              have e5 := HLt.out
              have e6 := (skipF_suf s2.rest false).length_le
              show _ - _ < _ - _
              rw [e1, e3]
              simp at e2 e4
              omega
            clear hat
            go_wp2_with fail
            go_roundw
            case rel => exact HV7.out
            case measure => exact HMe.out
end Go.Proofs.YtlibdhnlmekmhaaGreatDoor.Rd
end
