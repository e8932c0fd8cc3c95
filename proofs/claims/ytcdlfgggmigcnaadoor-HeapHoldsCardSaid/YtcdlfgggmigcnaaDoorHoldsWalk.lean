/- HeapHolds: the walk of the law. -/
import Derived.Test.YtcdlfgggmigcnaaDoorHoldsSt
import Derived.Deep.RegionHeld3
import Derived.BigQuiet
import Derived.BigGuardPart
namespace Go.Proofs.YtcdlfgggmigcnaaDoor.Holds
set_option maxRecDepth 100000
open Go.RowKit
open Go.Proofs.YtcdlfgggmigcnaaDoor.Own Go.Proofs.YtcdlfgggmigcnaaDoor.Hp Go.Proofs.YtcdlfgggmigcnaaDoor.Rep Go.Proofs.YtcdlfgggmigcnaaDoor.Get Go.Proofs.YtcdlfgggmigcnaaDoor.Quick Go.Proofs.YtcdlfgggmigcnaaDoor.Add Go.Proofs.YtcdlfgggmigcnaaDoor.Make Go.Proofs.YtcdlfgggmigcnaaDoor.Kit Go.Proofs.YtcdlfgggmigcnaaDoor.Strs Go.Proofs.YtcdlfgggmigcnaaDoor.Clone Go.Proofs.YtcdlfgggmigcnaaDoor.Lives

theorem bel_drew {w : World} : Below w.heap.size w w.drew := (Below.refl _ _).drew
theorem bel_box (w : World) (o : Obj) : Below w.heap.size w (w.alloc o) := (Below.refl _ _).alloc (Nat.le_refl _) o
/-- The cells of a word in a slice that came in, and of a box. -/
theorem keep_l {w w1 W : World} {m l : List Wd} {d : Nat → Wd} {T : Option (ByteArray × Nat)} {k r g o b : Nat} {v : Value} {y z : Wd} {bs : List (Nat × Wd)} (hb : Below w.heap.size w w1) (h : Hs w1 W m l d T k r v bs)
    (hc : ∀ W', Below w.heap.size w W' → W'.cell? ⟨g, o, none⟩ = some (.int .i64 y.1) ∧ W'.cell? ⟨g, o + 1, none⟩ = some (.int .i64 y.2)) (hm : (b, z) ∈ bs) :
    W.cell? ⟨g, o, none⟩ = some (.int .i64 y.1) ∧ W.cell? ⟨g, o + 1, none⟩ = some (.int .i64 y.2) ∧ W.cell? ⟨b, 0, none⟩ = some (.int .i64 z.1) ∧ W.cell? ⟨b, 1, none⟩ = some (.int .i64 z.2) := by
  obtain ⟨h1, h2⟩ := hc W (hb.trans (h.below.mono hb.size))
  obtain ⟨h3, h4⟩ := h.cell hm
  exact ⟨h1, h2, h3, h4⟩

/-- The cells of two boxes and of a cons's word. -/
theorem keep_c {w1 W : World} {m l : List Wd} {d : Nat → Wd} {T : Option (ByteArray × Nat)} {k r c g j b b' : Nat} {z z' : Wd} {bs : List (Nat × Wd)} (h : Hs w1 W m l d T k r (.slice (some ⟨g, 0, none⟩) r c) bs) (hj : j < r) (hm : (b, z) ∈ bs) (hm' : (b', z') ∈ bs) :
    W.cell? ⟨b, 0, none⟩ = some (.int .i64 z.1) ∧ W.cell? ⟨b, 1, none⟩ = some (.int .i64 z.2) ∧ W.cell? ⟨b', 0, none⟩ = some (.int .i64 z'.1) ∧ W.cell? ⟨b', 1, none⟩ = some (.int .i64 z'.2) ∧ W.cell? ⟨g, j * 2, none⟩ = some (.int .i64 2) ∧ W.cell? ⟨g, j * 2 + 1, none⟩ = some (.int .i64 ((low T + j : Nat) : Int)) := by
  obtain ⟨h1, h2⟩ := h.cell hm
  obtain ⟨h3, h4⟩ := h.cell hm'
  obtain ⟨g', e, h5, h6⟩ := h.at hj
  cases e
  exact ⟨h1, h2, h3, h4, h5, h6⟩

set_option maxHeartbeats 8000000 in
theorem core (A0 : Option Addr) (c0 : Nat) (l : List Wd) (s : ByteArray) (i : Int) (x : Wd) (w : World) (n : Nat) (hnl : l.length = n) (hl : SlR w (.slice A0 n c0) n (wcells l)) (hn : n ≤ 60) (hs : s.size ≤ 300) (hT : Tabs w) (h0 : 0 < n) :
    Calls Tryd.prog 4 #[.slice A0 n c0, .string s, .int .i64 i, wd x] w fun e w' => e = .returned (.bool true) ∧ Below w.heap.size w w' := by
  obtain ⟨i0, hi, hz0, hz1, hz2⟩ := info_parts word_info
  have HI := Lib.hid hi
  have HZ0 := Lib.hid hz0
  have HZ1 := Lib.hid hz1
  have HZ2 := Lib.hid hz2
  clear hi hz0 hz1 hz2
  have hbB := bel_box w (.cells #[.int .i64 x.1, .int .i64 x.2] 28)
  have HX0 := Lib.hid (Blk.new w #[.int .i64 x.1, .int .i64 x.2] 28)
  have HL := Lib.hid (lives_any _ (hT.below hbB))
  have HT := Lib.hid hT
  have HSl := Lib.hid hl
  have HNl := Lib.hid hnl
  have HBB := Lib.hid hbB
  have HSs := Lib.hid hs
  have hz60 : ¬ (60 : Int) < (n : Int) := by omega
  have hy60 : ¬ 60 < n := by omega
  clear hT hl hnl hbB
  go_enter Tryd.func4, Tryd.ntmps4
  go_wp2_with fail
  refine HL.out.mono ?_
  rintro e w1 ⟨rfl, hb1⟩
  have HNew := Lib.hid (new_any 200 (by omega) (by omega) w1)
  have HB1 := Lib.hid (HBB.out.trans (hb1.mono HBB.out.size))
  have HX1 := Lib.hid (HX0.out.below hb1)
  clear hb1 HL HX0
  go_wp2_with fail
  refine HNew.out.mono ?_
  rintro e w2 ⟨rfl, hb2, hI2⟩
  have hv1 := vec_first (bs := [(w.heap.size, x)]) hI2 hb2 (fun p hp => by
    rcases List.mem_singleton.1 hp with rfl
    exact ⟨HX1.out.lt, HX1.out.below hb2⟩) (.slice A0 n c0) l (by
    have := HSl.out.below (HB1.out.trans (hb2.mono HB1.out.size))
    rw [← HNl.out] at this
    rw [← HNl.out]
    exact this) (by have := HNl.out; omega)
  have HV1 := Lib.hid hv1
  clear hb2 hI2 hv1 HNew
  go_wp2_with fail
  refine HV1.out.mono ?_
  rintro e w3 ⟨rfl, hH3⟩
  obtain ⟨T, tw, f, htw, htx⟩ := text_second (hH3.alloc (4, 0)) (by have := HNl.out; omega) s HSs.out (HT.out.below (HB1.out.trans ((hH3.alloc (4, 0)).below.mono HB1.out.size))) rfl
  have HTx := Lib.hid htx
  have HTw := Lib.hid htw
  clear hH3 htx htw HV1
  go_wp2_with fail
  refine HTx.out.mono ?_
  rintro e w5 ⟨rfl, hH5⟩
  have hH6 := hH5.alloc tw
  clear hH5 HTx
  go_wp2_with fail
  obtain ⟨bv, hbv⟩ : ∃ b, w3.heap.size = b := ⟨_, rfl⟩
  obtain ⟨bt, hbt⟩ : ∃ b, w5.heap.size = b := ⟨_, rfl⟩
  obtain ⟨W6, hW6⟩ : ∃ W, w5.alloc (.cells #[.int .i64 tw.1, .int .i64 tw.2] 28) = W := ⟨_, rfl⟩
  rw [hW6, hbv, hbt] at hH6
  rw [hW6, hbv, hbt]
  have HH6 := Lib.hid hH6
  have HTs : Hid (∀ p, T = some p → p.2 ≤ 300) := Lib.hid (fun p hp => by
    rcases HTw.out with ⟨_, _, q, hq, e⟩ | ⟨_, _, e⟩
    · rw [e] at hp
      cases hp
      exact hq
    · rw [e] at hp
      cases hp)
  clear hH6 hW6 hbv hbt
  go_loopw [15, 16] (fun v i wr => ∃ k : Nat, i = .int .i64 (k : Int) ∧ k ≤ n ∧ Hid (Hs w1 wr l l (fun _ => (4, 0)) T k k v [(bt, tw), (bv, (4, 0)), (w.heap.size, x)])) (fun _ i _ => n - (intOf i).toNat)
  case atStart => exact ⟨0, rfl, Nat.zero_le _, HH6⟩
  case round =>
    obtain ⟨k, rfl, hk, HH⟩ := hrel
    clear HH6
    obtain ⟨A9, c9, rfl⟩ := HH.out.len
    by_cases hlt : k < n
    · have hltz : (k : Int) < (n : Int) := by omega
      obtain ⟨y, hy⟩ : ∃ y, l[k]? = some y := ⟨_, List.getElem?_eq_getElem (by rw [HNl.out]; exact hlt)⟩
      obtain ⟨g0, o0, rfl, hc0⟩ := slr_at HSl.out hlt hy
      have hlo := low_two T
      obtain ⟨cn, hcn⟩ : ∃ cn : Int, ((low T + k : Nat) : Int) = cn := ⟨_, rfl⟩
      have hcons := fun W (hW : Below wr.heap.size wr W) => (HH.out.later hW).cons hy (by omega) (by have := HNl.out; omega) HTs.out
      simp only [hcn] at hcons
      have hcons2 := ((HH.out.alloc (0, 0)).later bel_drew).cons hy (by omega) (by have := HNl.out; omega) HTs.out
      rw [hcn] at hcons2
      have HCo2 := Lib.hid hcons2
      have hq1 : (cn == 0) = false := beq_eq_false_iff_ne.2 (by omega)
      have hq2 : (cn == tw.2) = false := beq_eq_false_iff_ne.2 (by
        rcases HTw.out with ⟨_, e, q, _, e2⟩ | ⟨_, e, _⟩
        · rw [e]
          rw [e2] at hcn
          simp [low] at hcn
          show cn ≠ 1
          omega
        · rw [e]
          show cn ≠ 0
          omega)
      have hq3 : decide (cn = 0) = false := decide_eq_false (by simpa using hq1)
      have hq4 : decide (cn = tw.2) = false := decide_eq_false (by simpa using hq2)
      have HCo := Lib.hid hcons
      have HC0 := Lib.hid hc0
      have HCn := Lib.hid hcn
      have HBr := Lib.hid (bel_drew (w := wr))
      have HNe : Hid (∀ p ∈ [(bt, tw), (bv, ((4, 0) : Wd)), (w.heap.size, x)], p.1 ≠ wr.heap.size) := Lib.hid (fun p hp => by
        have := (HH.out.box p hp).1.lt
        omega)
      have HLe : Hid (w1.heap.size ≤ wr.heap.size) := Lib.hid HH.out.below.size
      obtain ⟨s0, s1, s2, s3⟩ := keep_l HB1.out HH.out hc0 (b := bv) (z := (4, 0)) (by simp)
      clear hcons hcons2 hc0 hcn hlo hy
      go_wp2_with fail
      go_region_held3 (fun w' => w'.cell? ⟨g0, o0 + k * 2, none⟩ = some (.int .i64 y.1) ∧ w'.cell? ⟨g0, o0 + k * 2 + 1, none⟩ = some (.int .i64 y.2) ∧ w'.cell? ⟨bv, 0, none⟩ = some (.int .i64 4) ∧ w'.cell? ⟨bv, 1, none⟩ = some (.int .i64 0))
        (first | exact keep_l HB1.out HH7.out HC0.out (b := bv) (z := (4, 0)) (by simp) | exact keep_l HB1.out (HH7.out.later (bel_box _ _)) HC0.out (b := bv) (z := (4, 0)) (by simp) | exact keep_l HB1.out (HH.out.later HBr.out) HC0.out (b := bv) (z := (4, 0)) (by simp) | exact keep_l HB1.out (HH.out.later (bel_box _ _).drew) HC0.out (b := bv) (z := (4, 0)) (by simp) | exact keep_l HB1.out (HH7.out.set HNe.out HLe.out 2 cn) HC0.out (b := bv) (z := (4, 0)) (by simp))
        (first
          | (go_at_call 17; refine (HCo.out _ HBr.out).mono ?_; rintro e w7 ⟨rfl, hH7⟩; have HH7 := Lib.hid hH7; clear hH7)
          | (go_at_call 17; refine HCo2.out.mono ?_; rintro e w7 ⟨rfl, hH7⟩; have hq := (hH7.box (wr.heap.size, (0, 0)) (by simp)).1; have t0 := hq.cell 0 _ rfl; have t1 := hq.cell 1 _ rfl; have t2 := hq.free 0; have t3 := hq.free 1; have HH7 := Lib.hid hH7; clear hH7 hq))
      all_goals (
        first
          | (have hH8 := HH7.out.set HNe.out HLe.out 2 cn
             obtain ⟨W8, hW8⟩ : ∃ W, (w7.setCell ⟨wr.heap.size, 0, none⟩ (.int .i64 2)).setCell ⟨wr.heap.size, 1, none⟩ (.int .i64 cn) = W := ⟨_, rfl⟩
             rw [hW8] at hH8 ⊢
             obtain ⟨b8, hb8⟩ : ∃ b, wr.heap.size = b := ⟨_, rfl⟩
             rw [hb8] at hH8 ⊢
             clear t0 t1 t2 t3)
          | (have hH8 := HH7.out.alloc (2, cn)
             obtain ⟨W8, hW8⟩ : ∃ W, w7.alloc (.cells #[.int .i64 2, .int .i64 cn] 28) = W := ⟨_, rfl⟩
             rw [hW8] at hH8 ⊢
             obtain ⟨b8, hb8⟩ : ∃ b, w7.heap.size = b := ⟨_, rfl⟩
             rw [hb8] at hH8 ⊢)
        clear hW8 hb8 s0 s1 s2 s3
        obtain ⟨m0, m1⟩ := hH8.cell (b := b8) (x := (2, cn)) (by simp)
        obtain ⟨m2, m3⟩ := hH8.cell (b := bv) (x := (4, 0)) (by simp)
        obtain ⟨m4, m5⟩ := hH8.cell (b := bt) (x := tw) (by simp)
        have HH8 := Lib.hid hH8
        have HBd : Hid (k + 1 ≤ maxLen ∧ (k + 1) * 16 ≤ 140737488355328) := Lib.hid ⟨by unfold maxLen; omega, by omega⟩
        have HJ : Hid (k < n) := Lib.hid hlt
        have hf : f = 0 ∨ f = 5 := HTw.out.elim (fun h => .inl h.1) fun h => .inr h.1
        clear hH8
        rcases hf with hf | hf
        all_goals (
          subst hf
          go_wp2_with (at_builtin; go_loud (refine wpList_append_place rfl (.tmp 99) (.tmp 101) 36 rfl w1.heap.size 28 i0 (.agg #[.int .i64 0, .int .i64 0]) 2 16 Tryd.underlying36 HI.out HZ0.out HZ1.out HZ2.out rfl (by decide) (.slice A9 k c9) k (wcells (cw T k)) rfl (HH8.out.later (bel_box _ _)).row ⟨_, 0, none⟩ 1 1 [.int .i64 2, .int .i64 cn] rfl rfl (two_cell _ _ _ _) (two_one _ _) HBd.out.1 HBd.out.2 (Nat.le_trans HH8.out.below.size (bel_box _ _).size) ?_))
          intro A6 c6 w9 hap
          have HH9 := Lib.hid ((HH8.out.push (bel_box _ _) (by rw [HCn.out]; exact hap)).sub (bs' := [(bt, tw), (bv, (4, 0)), (w.heap.size, x)]) (fun p hp => List.mem_cons_of_mem _ hp))
          clear hap m0 m1 m2 m3 m4 m5
          go_wp2_with fail
          go_roundw
          case rel => exact ⟨k + 1, by go_num, by have := HJ.out; omega, HH9⟩
          case measure => have := HJ.out; simp [intOf]; omega))
    · have hke : k = n := by omega
      subst hke
      have hltz : ¬ ((k : Nat) : Int) < (k : Int) := by omega
      have hz0 : (0 : Int) < (k : Int) := by omega
      obtain ⟨kk, hkk⟩ := Int.eq_ofNat_of_zero_le (pick_range i k (by omega)).1
      have hkk2 := (pick_range i k (by omega)).2
      have hpk := fun W => pick_any i (k : Int) W (by omega) (by omega)
      rw [hkk] at hkk2
      simp only [hkk] at hpk
      have hkk3 : kk < k := by omega
      obtain ⟨z, hz⟩ : ∃ z, l[kk]? = some z := ⟨_, List.getElem?_eq_getElem (by rw [HNl.out]; exact hkk3)⟩
      obtain ⟨g9, rfl, _, _⟩ := HH.out.at hkk3
      obtain ⟨s0, s1, s2, s3, s4, s5⟩ := keep_c HH.out hkk3 (b := bv) (z := (4, 0)) (b' := w.heap.size) (z' := x) (by simp) (by simp)
      have HSa := Lib.hid (fun W (hW : Below wr.heap.size wr W) => (HH.out.later hW).setAt kk (by rw [HNl.out]; exact hkk3) x)
      have HPk := Lib.hid hpk
      have HKk := Lib.hid hkk3
      have HZ := Lib.hid hz
      have HBr := Lib.hid (bel_drew (w := wr))
      have hkkz : (kk : Int) < (k : Int) := by omega
      clear hpk hkk hkk2 hz
      go_wp2_with fail
      refine (HPk.out _).mono ?_
      rintro e w9 ⟨rfl, rfl⟩
      go_wp2_with fail
      go_region_held3 (fun w' => w'.cell? ⟨bv, 0, none⟩ = some (.int .i64 4) ∧ w'.cell? ⟨bv, 1, none⟩ = some (.int .i64 0) ∧ w'.cell? ⟨w.heap.size, 0, none⟩ = some (.int .i64 x.1) ∧ w'.cell? ⟨w.heap.size, 1, none⟩ = some (.int .i64 x.2) ∧ w'.cell? ⟨g9, kk * 2, none⟩ = some (.int .i64 2) ∧ w'.cell? ⟨g9, kk * 2 + 1, none⟩ = some (.int .i64 ((low T + kk : Nat) : Int)))
        (first | exact keep_c HH12.out HKk.out (b := bv) (z := (4, 0)) (b' := w.heap.size) (z' := x) (by simp) (by simp) | exact keep_c HH11.out HKk.out (b := bv) (z := (4, 0)) (b' := w.heap.size) (z' := x) (by simp) (by simp) | exact keep_c (HH.out.later HBr.out) HKk.out (b := bv) (z := (4, 0)) (b' := w.heap.size) (z' := x) (by simp) (by simp))
        (first
          | (go_at_call 31; refine (HSa.out _ HBr.out).mono ?_; rintro e w11 ⟨rfl, hH11⟩; have HH11 := Lib.hid hH11; clear hH11)
          | (go_at_call 32; refine (HH11.out.setCdr kk HKk.out z HZ.out x).mono ?_; rintro e w12 ⟨rfl, hH12⟩; have HH12 := Lib.hid hH12; clear hH12))
      have hvo := HH12.out.vecOf
      rw [List.length_set, HNl.out] at hvo
      have HVo := Lib.hid hvo
      obtain ⟨v0, v1⟩ := HH12.out.cell (b := bv) (x := (4, 0)) (by simp)
      clear hvo s0 s1 s2 s3 s4 s5 HSa HBr
      go_wp2_with fail
      refine HVo.out.mono ?_
      rintro e w13 ⟨⟨vg, rfl, hrg⟩, hb13⟩
      obtain ⟨Ag, cg, rfl⟩ := slice_of' hrg
      have HH13 := Lib.hid (HH12.out.later hb13)
      have HRg := Lib.hid hrg
      clear hrg hb13 v0 v1 HVo
      go_wp2_with fail
      go_loopw [22] (fun j wr => ∃ q : Nat, j = .int .i64 (q : Int) ∧ q ≤ k ∧ Hid (Hq w1 w13 wr (l.set kk x) l (fun j => if j = kk then x else (4, 0)) T k k (.slice (some ⟨g9, 0, none⟩) k c9) [(bt, tw), (bv, ((4, 0) : Wd)), (w.heap.size, x)])) (fun j _ => k - (intOf j).toNat)
      case atStart => exact ⟨0, rfl, Nat.zero_le _, ⟨HH13.out, Below.refl _ _⟩⟩
      case round =>
        obtain ⟨q, rfl, hq, HHq⟩ := hrel
        by_cases hlq : q < k
        · have hlqz : (q : Int) < (k : Int) := by omega
          obtain ⟨y, hy⟩ : ∃ y, l[q]? = some y := ⟨_, List.getElem?_eq_getElem (by rw [HNl.out]; exact hlq)⟩
          obtain ⟨g0, o0, rfl, hc0⟩ := slr_at HSl.out hlq hy
          have HC0 := Lib.hid hc0
          have HY := Lib.hid hy
          have HJq := Lib.hid hlq
          obtain ⟨s0, s1, s2, s3⟩ := keep_l HB1.out HHq.out.hs hc0 (b := bv) (z := (4, 0)) (by simp)
          have HOld : Hid (∀ p ∈ [(bt, tw), (bv, ((4, 0) : Wd)), (w.heap.size, x)], p.1 < wr.heap.size) := Lib.hid (fun p hp => (HHq.out.hs.box p hp).1.lt)
          have HSz : Hid (w1.heap.size ≤ wr.heap.size ∧ w13.heap.size ≤ wr.heap.size) := Lib.hid ⟨HHq.out.hs.below.size, HHq.out.bel.size⟩
          clear hc0 hy
          go_wp2_with fail
          go_region_held3 (fun w' => w'.cell? ⟨g0, o0 + q * 2, none⟩ = some (.int .i64 y.1) ∧ w'.cell? ⟨g0, o0 + q * 2 + 1, none⟩ = some (.int .i64 y.2) ∧ w'.cell? ⟨bv, 0, none⟩ = some (.int .i64 4) ∧ w'.cell? ⟨bv, 1, none⟩ = some (.int .i64 0))
            (first | exact keep_l HB1.out (HHq.out.hs.later bel_drew) HC0.out (b := bv) (z := (4, 0)) (by simp) | exact keep_l HB1.out (HHq.out.hs.later (bel_box _ _).drew) HC0.out (b := bv) (z := (4, 0)) (by simp) | exact keep_l HB1.out (HHq.out.hs.later (bel_two _ _ _).drew) HC0.out (b := bv) (z := (4, 0)) (by simp))
            (fail)
          all_goals (
            first
              | (have hH := ((HHq.out.alloc y).alloc (4, 0)).later bel_drew
                 rw [show (wr.alloc (.cells #[.int .i64 y.1, .int .i64 y.2] 28)).heap.size = wr.heap.size + 1 by simp] at hH
                 have hH := hH.sub (bs' := (wr.heap.size, y) :: (wr.heap.size + 1, (4, 0)) :: [(bt, tw), (bv, ((4, 0) : Wd)), (w.heap.size, x)]) (fun p hp => by simp only [List.mem_cons, List.not_mem_nil, or_false] at hp ⊢; rcases hp with e | e | e | e | e <;> simp [e])
                 have hn : wr.heap.size ≠ wr.heap.size + 1 ∧ (w1.heap.size ≤ wr.heap.size ∧ w1.heap.size ≤ wr.heap.size + 1) ∧ (w13.heap.size ≤ wr.heap.size ∧ w13.heap.size ≤ wr.heap.size + 1) ∧ ∀ p ∈ [(bt, tw), (bv, ((4, 0) : Wd)), (w.heap.size, x)], p.1 ≠ wr.heap.size ∧ p.1 ≠ wr.heap.size + 1 := ⟨by omega, by have := HSz.out.1; omega, by have := HSz.out.2; omega, fun p hp => by have := HOld.out p hp; omega⟩
                 obtain ⟨W23, hW23⟩ : ∃ W, ((wr.alloc (.cells #[.int .i64 y.1, .int .i64 y.2] 28)).alloc (.cells #[.int .i64 4, .int .i64 0] 28)).drew = W := ⟨_, rfl⟩
                 change Hq w1 w13 (((wr.alloc (.cells #[.int .i64 y.1, .int .i64 y.2] 28)).alloc (.cells #[.int .i64 4, .int .i64 0] 28)).drew) _ _ _ _ _ _ _ _ at hH
                 rw [hW23] at hH ⊢
                 obtain ⟨b24, hb24⟩ : ∃ b, wr.heap.size + 1 = b := ⟨_, rfl⟩
                 rw [hb24] at hH hn ⊢
                 obtain ⟨b23, hb23⟩ : ∃ b, wr.heap.size = b := ⟨_, rfl⟩
                 rw [hb23] at hH hn ⊢
                 clear hW23 hb24 hb23)
              | (have hH := ((HHq.out.alloc (4, 0)).alloc y).later bel_drew
                 rw [show (wr.alloc (.cells #[.int .i64 ((4, 0) : Wd).1, .int .i64 ((4, 0) : Wd).2] 28)).heap.size = wr.heap.size + 1 by simp] at hH
                 have hH := hH.sub (bs' := (wr.heap.size + 1, y) :: (wr.heap.size, (4, 0)) :: [(bt, tw), (bv, ((4, 0) : Wd)), (w.heap.size, x)]) (fun p hp => by simp only [List.mem_cons, List.not_mem_nil, or_false] at hp ⊢; rcases hp with e | e | e | e | e <;> simp [e])
                 have hn : wr.heap.size + 1 ≠ wr.heap.size ∧ (w1.heap.size ≤ wr.heap.size + 1 ∧ w1.heap.size ≤ wr.heap.size) ∧ (w13.heap.size ≤ wr.heap.size + 1 ∧ w13.heap.size ≤ wr.heap.size) ∧ ∀ p ∈ [(bt, tw), (bv, ((4, 0) : Wd)), (w.heap.size, x)], p.1 ≠ wr.heap.size + 1 ∧ p.1 ≠ wr.heap.size := ⟨by omega, by have := HSz.out.1; omega, by have := HSz.out.2; omega, fun p hp => by have := HOld.out p hp; omega⟩
                 obtain ⟨W23, hW23⟩ : ∃ W, ((wr.alloc (.cells #[.int .i64 4, .int .i64 0] 28)).alloc (.cells #[.int .i64 y.1, .int .i64 y.2] 28)).drew = W := ⟨_, rfl⟩
                 change Hq w1 w13 (((wr.alloc (.cells #[.int .i64 4, .int .i64 0] 28)).alloc (.cells #[.int .i64 y.1, .int .i64 y.2] 28)).drew) _ _ _ _ _ _ _ _ at hH
                 rw [hW23] at hH ⊢
                 obtain ⟨b23, hb23⟩ : ∃ b, wr.heap.size + 1 = b := ⟨_, rfl⟩
                 rw [hb23] at hH hn ⊢
                 obtain ⟨b24, hb24⟩ : ∃ b, wr.heap.size = b := ⟨_, rfl⟩
                 rw [hb24] at hH hn ⊢
                 clear hW23 hb24 hb23)
            have HQ23 := Lib.hid hH
            have HN23 := Lib.hid hn
            clear hH hn s0 s1 s2 s3
            by_cases hqk : q = kk
            · subst hqk
              have HM : Hid ((l.set q x)[q]? = some x) := Lib.hid (List.getElem?_set_self (by rw [HNl.out]; exact hlq))
              have g1 := (HQ23.out.hs.box (b23, y) (by simp)).1
              have g2 := (HQ23.out.hs.box (b24, (4, 0)) (by simp)).1
              obtain ⟨t0, t1⟩ := HQ23.out.hs.cell (b := w.heap.size) (x := x) (by simp)
              have t2 := g1.cell 0 _ rfl
              have t3 := g1.cell 1 _ rfl
              have t4 := g1.free 0
              have t5 := g1.free 1
              have t6 := g2.cell 0 _ rfl
              have t7 := g2.cell 1 _ rfl
              have t8 := g2.free 0
              have t9 := g2.free 1
              have hn1 := HN23.out.1
              have hn2 := HN23.out.1.symm
              have hq1 := HQ23.out.set (fun p hp => by
                rcases List.mem_cons.1 hp with rfl | hp
                · exact HN23.out.1.symm
                · exact (HN23.out.2.2.2 p hp).1) HN23.out.2.1.1 HN23.out.2.2.1.1 x.1 x.2
              have hq2 := (hq1.sub (bs' := (b24, (4, 0)) :: (b23, x) :: [(bt, tw), (bv, ((4, 0) : Wd)), (w.heap.size, x)]) (fun p hp => by simp only [List.mem_cons, List.not_mem_nil, or_false] at hp ⊢; rcases hp with e | e | e | e | e <;> simp [e])).set (fun p hp => by
                rcases List.mem_cons.1 hp with rfl | hp
                · exact HN23.out.1
                · exact (HN23.out.2.2.2 p hp).2) HN23.out.2.1.2 HN23.out.2.2.1.2 x.1 x.2
              have HQ1 := Lib.hid hq1
              have HQ2 := Lib.hid hq2
              clear g1 g2 hq1 hq2
              go_wp2_with fail
              refine (HPk.out _).mono ?_
              rintro e w24 ⟨rfl, rfl⟩
              go_wp2_with fail
              go_region_held3 (fun w' => w'.cell? ⟨w.heap.size, 0, none⟩ = some (.int .i64 x.1) ∧ w'.cell? ⟨w.heap.size, 1, none⟩ = some (.int .i64 x.2))
                (first | exact ((HQ1.out.later bel_drew).hs.cell (b := w.heap.size) (x := x) (by simp)) | exact ((HQ2.out.later bel_drew).hs.cell (b := w.heap.size) (x := x) (by simp)) | exact ((HQ23.out.later bel_drew).hs.cell (b := w.heap.size) (x := x) (by simp)))
                (fail)
              have HQ26 := Lib.hid ((HQ2.out.later bel_drew).sub (bs' := (b23, x) :: (b24, x) :: [(bt, tw), (bv, ((4, 0) : Wd)), (w.heap.size, x)]) (fun p hp => by simp only [List.mem_cons, List.not_mem_nil, or_false] at hp ⊢; rcases hp with e | e | e | e | e <;> simp [e]))
              obtain ⟨W26, hW26⟩ : ∃ W, ((((W23.setCell ⟨b23, 0, none⟩ (.int .i64 x.1)).setCell ⟨b23, 1, none⟩ (.int .i64 x.2)).setCell ⟨b24, 0, none⟩ (.int .i64 x.1)).setCell ⟨b24, 1, none⟩ (.int .i64 x.2)).drew = W := ⟨_, rfl⟩
              rw [hW26] at HQ26 ⊢
              clear hW26 t0 t1 t2 t3 t4 t5 t6 t7 t8 t9 hn1 hn2
              obtain ⟨_, e9, r0, r1⟩ := HQ26.out.hs.at HJq.out
              cases e9
              have HCar := Lib.hid (HQ26.out.hs.car HJq.out HY.out).at
              go_wp2_with fail
              refine HCar.out.mono ?_
              rintro e w27 ⟨rfl, hb27⟩
              have hH28 := (HQ26.out.later hb27).alloc y
              obtain ⟨_, e9, r2, r3⟩ := hH28.hs.at HJq.out
              cases e9
              have hcd := (hH28.hs.cdr HJq.out HY.out).at
              rw [if_pos rfl] at hcd
              have HCdr := Lib.hid hcd
              have HQ28 := Lib.hid hH28
              clear r0 r1 hb27 hH28 hcd HCar
              go_wp2_with fail
              refine HCdr.out.mono ?_
              rintro e w29 ⟨rfl, hb29⟩
              have hH30 := (HQ28.out.later hb29).alloc x
              clear r2 r3 hb29 HCdr
              go_wp2_with fail
              obtain ⟨W30, hW30⟩ : ∃ W, w29.alloc (.cells #[.int .i64 x.1, .int .i64 x.2] 28) = W := ⟨_, rfl⟩
              obtain ⟨b25, hb25⟩ : ∃ b, w27.heap.size = b := ⟨_, rfl⟩
              obtain ⟨b27, hb27⟩ : ∃ b, w29.heap.size = b := ⟨_, rfl⟩
              change Hq w1 w13 (w29.alloc (.cells #[.int .i64 x.1, .int .i64 x.2] 28)) _ _ _ _ _ _ _ _ at hH30
              rw [hW30, hb25, hb27] at hH30
              rw [hW30, hb25, hb27]
              obtain ⟨a0, a1⟩ := hH30.hs.cell (b := b25) (x := y) (by simp)
              obtain ⟨a2, a3⟩ := hH30.hs.cell (b := b27) (x := x) (by simp)
              obtain ⟨a4, a5⟩ := hH30.hs.cell (b := b24) (x := x) (by simp)
              obtain ⟨a6, a7⟩ := hH30.hs.cell (b := b23) (x := x) (by simp)
              obtain ⟨a8, a9⟩ := HC0.out W30 (HB1.out.trans (hH30.hs.below.mono HB1.out.size))
              obtain ⟨gg, egg, d0, d1⟩ := row_at (owns_below HRg.out hH30.bel) HJq.out HM.out
              cases egg
              have HQ30 := Lib.hid hH30
              clear hH30 hW30 hb25 hb27
              go_quiet (fail)
              clear a0 a1 a2 a3 a4 a5 a6 a7 a8 a9 d0 d1
              go_wp2_with fail
              go_loopw [29] (fun j wr => ∃ r : Nat, j = .int .i64 (r : Int) ∧ r ≤ q ∧ Hid (Below W30.heap.size W30 wr)) (fun j _ => q - (intOf j).toNat)
              case atStart => exact ⟨0, rfl, Nat.zero_le _, Own.below_drewN (Below.refl _ _) _⟩
              case round =>
                obtain ⟨r, rfl, hr, HBr⟩ := hrel
                by_cases hlr : r < q
                · have hlrz : (r : Int) < (q : Int) := by omega
                  have hrk : r < k := by omega
                  have hrkz : (r : Int) < (k : Int) := by omega
                  obtain ⟨_, e9, a0, a1⟩ := (HQ30.out.later HBr.out).hs.at hrk
                  cases e9
                  obtain ⟨_, e9, a2, a3⟩ := (HQ30.out.later HBr.out).hs.at HJq.out
                  cases e9
                  obtain ⟨cr, hcr⟩ : ∃ c : Int, ((low T + r : Nat) : Int) = c := ⟨_, rfl⟩
                  obtain ⟨cq, hcq⟩ : ∃ c : Int, ((low T + q : Nat) : Int) = c := ⟨_, rfl⟩
                  rw [hcr] at a1
                  rw [hcq] at a3
                  have hne : ¬ cr = cq := by omega
                  have hne1 : (cr == cq) = false := beq_eq_false_iff_ne.2 hne
                  clear hcr hcq
                  go_wp2_with fail
                  go_quiet (fail)
                  clear a0 a1 a2 a3
                  go_wp2_with fail
                  go_roundw
                  case rel => exact ⟨r + 1, by go_num, by omega, Own.below_drewN HBr.out _⟩
                  case measure => simp [intOf]; omega
                · have hqe : r = q := by omega
                  subst hqe
                  have hltr : ¬ ((r : Nat) : Int) < (r : Int) := by omega
                  have HRn := Lib.hid ((HQ30.out.later HBr.out).sub (bs' := [(bt, tw), (bv, ((4, 0) : Wd)), (w.heap.size, x)]) (fun p hp => by simp only [List.mem_cons, List.not_mem_nil, or_false] at hp ⊢; rcases hp with e | e | e <;> simp [e]))
                  go_wp2_with fail
                  go_roundw
                  case rel => exact ⟨r + 1, by go_num, by omega, HRn⟩
                  case measure => simp [intOf]; omega
            · have hqk1 : ((q : Int) == (kk : Int)) = false := beq_eq_false_iff_ne.2 (by omega)
              have hqk2 : decide ((q : Int) = (kk : Int)) = false := decide_eq_false (by omega)
              have hqk3 : ¬ ((q : Int) = (kk : Int)) := by omega
              have HD : Hid ((if q = kk then x else ((4, 0) : Wd)) = (4, 0)) := Lib.hid (if_neg hqk)
              have HM : Hid ((l.set kk x)[q]? = some y) := Lib.hid (by rw [List.getElem?_set_ne (fun e => hqk e.symm)]; exact HY.out)
              have HQ26 := HQ23
              go_wp2_with fail
              refine (HPk.out _).mono ?_
              rintro e w24 ⟨rfl, rfl⟩
              obtain ⟨_, e9, r0, r1⟩ := HQ26.out.hs.at HJq.out
              cases e9
              have HCar := Lib.hid (HQ26.out.hs.car HJq.out HY.out).at
              go_wp2_with fail
              refine HCar.out.mono ?_
              rintro e w27 ⟨rfl, hb27⟩
              have hH28 := (HQ26.out.later hb27).alloc y
              obtain ⟨_, e9, r2, r3⟩ := hH28.hs.at HJq.out
              cases e9
              have hcd := (hH28.hs.cdr HJq.out HY.out).at
              rw [HD.out] at hcd
              have HCdr := Lib.hid hcd
              have HQ28 := Lib.hid hH28
              clear r0 r1 hb27 hH28 hcd HCar
              go_wp2_with fail
              refine HCdr.out.mono ?_
              rintro e w29 ⟨rfl, hb29⟩
              have hH30 := (HQ28.out.later hb29).alloc (4, 0)
              clear r2 r3 hb29 HCdr
              go_wp2_with fail
              obtain ⟨W30, hW30⟩ : ∃ W, w29.alloc (.cells #[.int .i64 4, .int .i64 0] 28) = W := ⟨_, rfl⟩
              obtain ⟨b25, hb25⟩ : ∃ b, w27.heap.size = b := ⟨_, rfl⟩
              obtain ⟨b27, hb27⟩ : ∃ b, w29.heap.size = b := ⟨_, rfl⟩
              change Hq w1 w13 (w29.alloc (.cells #[.int .i64 4, .int .i64 0] 28)) _ _ _ _ _ _ _ _ at hH30
              rw [hW30, hb25, hb27] at hH30
              rw [hW30, hb25, hb27]
              obtain ⟨a0, a1⟩ := hH30.hs.cell (b := b25) (x := y) (by simp)
              obtain ⟨a2, a3⟩ := hH30.hs.cell (b := b27) (x := (4, 0)) (by simp)
              obtain ⟨a4, a5⟩ := hH30.hs.cell (b := b24) (x := (4, 0)) (by simp)
              obtain ⟨a6, a7⟩ := hH30.hs.cell (b := b23) (x := y) (by simp)
              obtain ⟨a8, a9⟩ := HC0.out W30 (HB1.out.trans (hH30.hs.below.mono HB1.out.size))
              obtain ⟨gg, egg, d0, d1⟩ := row_at (owns_below HRg.out hH30.bel) HJq.out HM.out
              cases egg
              have HQ30 := Lib.hid hH30
              clear hH30 hW30 hb25 hb27
              go_quiet (fail)
              clear a0 a1 a2 a3 a4 a5 a6 a7 a8 a9 d0 d1
              go_wp2_with fail
              go_loopw [29] (fun j wr => ∃ r : Nat, j = .int .i64 (r : Int) ∧ r ≤ q ∧ Hid (Below W30.heap.size W30 wr)) (fun j _ => q - (intOf j).toNat)
              case atStart => exact ⟨0, rfl, Nat.zero_le _, Own.below_drewN (Below.refl _ _) _⟩
              case round =>
                obtain ⟨r, rfl, hr, HBr⟩ := hrel
                by_cases hlr : r < q
                · have hlrz : (r : Int) < (q : Int) := by omega
                  have hrk : r < k := by omega
                  have hrkz : (r : Int) < (k : Int) := by omega
                  obtain ⟨_, e9, a0, a1⟩ := (HQ30.out.later HBr.out).hs.at hrk
                  cases e9
                  obtain ⟨_, e9, a2, a3⟩ := (HQ30.out.later HBr.out).hs.at HJq.out
                  cases e9
                  obtain ⟨cr, hcr⟩ : ∃ c : Int, ((low T + r : Nat) : Int) = c := ⟨_, rfl⟩
                  obtain ⟨cq, hcq⟩ : ∃ c : Int, ((low T + q : Nat) : Int) = c := ⟨_, rfl⟩
                  rw [hcr] at a1
                  rw [hcq] at a3
                  have hne : ¬ cr = cq := by omega
                  have hne1 : (cr == cq) = false := beq_eq_false_iff_ne.2 hne
                  clear hcr hcq
                  go_wp2_with fail
                  go_quiet (fail)
                  clear a0 a1 a2 a3
                  go_wp2_with fail
                  go_roundw
                  case rel => exact ⟨r + 1, by go_num, by omega, Own.below_drewN HBr.out _⟩
                  case measure => simp [intOf]; omega
                · have hqe : r = q := by omega
                  subst hqe
                  have hltr : ¬ ((r : Nat) : Int) < (r : Int) := by omega
                  have HRn := Lib.hid ((HQ30.out.later HBr.out).sub (bs' := [(bt, tw), (bv, ((4, 0) : Wd)), (w.heap.size, x)]) (fun p hp => by simp only [List.mem_cons, List.not_mem_nil, or_false] at hp ⊢; rcases hp with e | e | e <;> simp [e]))
                  go_wp2_with fail
                  go_roundw
                  case rel => exact ⟨r + 1, by go_num, by omega, HRn⟩
                  case measure => simp [intOf]; omega)
        · have hqe : q = k := by omega
          subst hqe
          have hltq : ¬ ((q : Nat) : Int) < (q : Int) := by omega
          obtain ⟨u, p, htx, hup⟩ := HHq.out.hs.textOf tw (fun p hp => by
            rcases HTw.out with ⟨_, e, _⟩ | ⟨_, _, e⟩
            · exact e
            · rw [e] at hp
              cases hp)
          obtain ⟨m4, m5⟩ := HHq.out.hs.cell (b := bt) (x := tw) (by simp)
          have hbf : Below w.heap.size w wr := HB1.out.trans (HHq.out.hs.below.mono HB1.out.size)
          have HTo := Lib.hid htx.at
          have HBf := Lib.hid hbf
          have HUp := Lib.hid hup
          clear htx hbf hup
          go_wp2_with fail
          refine HTo.out.mono ?_
          rintro e w20 ⟨rfl, hb20⟩
          have HB20 := Lib.hid (HBf.out.trans (hb20.mono HBf.out.size))
          have hcs : (f = 0 ∧ u = s ∧ p = 0) ∨ f = 5 := by
            rcases HTw.out with ⟨e, _, nn, _, e2⟩ | ⟨e, _⟩
            · exact .inl ⟨e, (HUp.out _ e2).1, (HUp.out _ e2).2⟩
            · exact .inr e
          clear hb20 HTo
          rcases hcs with ⟨rfl, rfl, rfl⟩ | rfl
          · go_wp2_with fail
            go_ret
            exact ⟨rfl, HB20.out⟩
          · go_wp2_with fail
            go_ret
            exact ⟨rfl, HB20.out⟩
end Go.Proofs.YtcdlfgggmigcnaaDoor.Holds
