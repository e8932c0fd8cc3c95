/- HeapCollect: the walk of the law. -/
import Derived.Test.YtpofmbigclonlaaDoorColl1
namespace Go.Proofs.YtpofmbigclonlaaDoor.LawCollect
open Go.RowKit
open Go.Proofs.YtpofmbigclonlaaDoor.Place Go.Proofs.YtpofmbigclonlaaDoor.LawFull
open Go.Proofs.YtpofmbigclonlaaDoor.Own Go.Proofs.YtpofmbigclonlaaDoor.Hp Go.Proofs.YtpofmbigclonlaaDoor.Rep Go.Proofs.YtpofmbigclonlaaDoor.Get Go.Proofs.YtpofmbigclonlaaDoor.Quick Go.Proofs.YtpofmbigclonlaaDoor.Add Go.Proofs.YtpofmbigclonlaaDoor.Make Go.Proofs.YtpofmbigclonlaaDoor.Kit Go.Proofs.YtpofmbigclonlaaDoor.Strs Go.Proofs.YtpofmbigclonlaaDoor.Clone Go.Proofs.YtpofmbigclonlaaDoor.Lives Go.Proofs.YtpofmbigclonlaaDoor.Nums Go.Proofs.YtpofmbigclonlaaDoor.Collect Go.Proofs.YtpofmbigclonlaaDoor.Car Go.Proofs.YtpofmbigclonlaaDoor.Dfs Go.Proofs.YtpofmbigclonlaaDoor.Visit Go.Proofs.YtpofmbigclonlaaDoor.Coll Go.Proofs.YtpofmbigclonlaaDoor.Elem

/-- What holds between the rounds of the last loop. -/
structure Fin (w1 wr : World) (hp n gm : Nat) (a d : Nat → Nat) (m : Nat → Bool) (lab : Nat → Option Lab) (P : Parts) : Prop where
  below : Below w1.heap.size w1 wr
  heap : HeapIs wr w1.heap.size hp 50 (col a d n m) lab P
  marks : Row wr gm (mcells 41 m)
theorem Fin.later {w1 wr W : World} {hp n gm : Nat} {a d : Nat → Nat} {m : Nat → Bool} {lab : Nat → Option Lab} {P : Parts} (h : Fin w1 wr hp n gm a d m lab P) (hb : Below wr.heap.size wr W) : Fin w1 W hp n gm a d m lab P :=
  ⟨h.below.trans (hb.mono h.below.size), h.heap.below hb, h.marks.below hb⟩

set_option maxRecDepth 100000 in
set_option maxHeartbeats 3200000 in
theorem core (A0 A1 A2 : Option Addr) (n c0 n1 c1 n2 c2 : Nat) (l0 l1 l2 : List Int) (w : World)
    (h0 : SlR w (.slice A0 n c0) n (l0.map (Value.int .i64))) (e0 : l0.length = n) (h1 : SlR w (.slice A1 n1 c1) n1 (l1.map (Value.int .i64))) (e1 : l1.length = n1) (h2 : SlR w (.slice A2 n2 c2) n2 (l2.map (Value.int .i64))) (e2 : l2.length = n2)
    (hn : n ≤ 40) (hn1 : n ≤ n1) (hm1 : n1 ≤ 9223372036854775807) (hn2 : n2 ≤ 40) (hT : Tabs w) :
    Calls Tryd.prog 6 #[.slice A0 n c0, .slice A1 n1 c1, .slice A2 n2 c2] w fun e w' => e = .returned (.bool true) ∧ Below w.heap.size w w' := by
  have z0 : ¬ (40 : Int) < (n : Int) := by omega
  have z1 : ¬ (n1 : Int) < (n : Int) := by omega
  have z2 : ¬ (40 : Int) < (n2 : Int) := by omega
  have HL := Lib.hid (lives_any w hT)
  have H0 := Lib.hid (cells_at h0 e0)
  have H1 := Lib.hid (cells_at h1 e1)
  have H2 := Lib.hid (cells_at h2 e2)
  obtain ⟨i0, hi, hz0, hz1, hz2⟩ := info_parts word_info
  have HI := Lib.hid hi
  have HZ0 := Lib.hid hz0
  have HZ1 := Lib.hid hz1
  have HZ2 := Lib.hid hz2
  clear hi hz0 hz1 hz2
  obtain ⟨i1, hi, hz0, hz1, hz2⟩ := info_parts int_info
  have JI := Lib.hid hi
  have JZ0 := Lib.hid hz0
  have JZ1 := Lib.hid hz1
  have JZ2 := Lib.hid hz2
  clear hi hz0 hz1 hz2 hT h0 h1 h2 e0 e1 e2
  go_enter Tryd.func6, Tryd.ntmps6
  go_wp2_with fail
  refine HL.out.mono ?_
  rintro e w1 ⟨rfl, hb1⟩
  have HNew := Lib.hid (new_any 50 (by omega) (by omega) w1)
  have HB1 := Lib.hid hb1
  clear hb1
  go_wp2_with fail
  refine HNew.out.mono ?_
  rintro e w2 ⟨rfl, hb2, hI2⟩
  have hstart : Laid w1 w2 w1.heap.size 0 (pk l0) (pk l1) _ _ := ⟨hb2, by rw [obG_zero]; exact hI2⟩
  have HS := Lib.hid hstart
  clear hstart hb2 hI2 HNew
  go_wp2_with fail
  obtain ⟨hp, hhp⟩ : ∃ hp, w1.heap.size = hp := ⟨_, rfl⟩
  rw [hhp] at HS ⊢
  have HH := Lib.hid hhp
  clear hhp
  go_loopw [10] (fun i wr => ∃ (k : Nat) (lab : Nat → Option Lab) (P : Parts), i = .int .i64 (k : Int) ∧ k ≤ n ∧ Hid (Laid w1 wr hp k (pk l0) (pk l1) lab P)) (fun i _ => n - (intOf i).toNat)
  case atStart => exact ⟨0, _, _, rfl, Nat.zero_le _, HS⟩
  case round =>
    obtain ⟨k, lab, P, rfl, hk, HLa⟩ := hrel
    by_cases hlt : k < n
    · have hltz : (k : Int) < n := by omega
      have hltz1 : (k : Int) < n1 := by omega
      obtain ⟨g0, o0, rfl, q0⟩ := H0.out (by omega)
      obtain ⟨g1, o1, rfl, q1⟩ := H1.out (by omega)
      have Q0 := Lib.hid (fun W (hb : Below w1.heap.size w1 W) => q0 W (HB1.out.trans (hb.mono HB1.out.size)) k hlt)
      have Q1 := Lib.hid (fun W (hb : Below w1.heap.size w1 W) => q1 W (HB1.out.trans (hb.mono HB1.out.size)) k (by omega))
      have HC := Lib.hid (HLa.out.cons (by omega))
      have HBx := Lib.hid HLa.out.below.drew
      have HBr := Lib.hid (Below.refl wr.heap.size wr).drew
      clear q0 q1 HLa
      go_wp2_with fail
      go_region_held3 (fun w' => w'.cell? ⟨g0, o0 + k, none⟩ = some (.int .i64 (l0.getD k 0)) ∧ w'.cell? ⟨g1, o1 + k, none⟩ = some (.int .i64 (l1.getD k 0)))
        (first | exact ⟨Q0.out _ HBx.out, Q1.out _ HBx.out⟩)
        (first
          | (go_at_call 24; refine (pick_at _ k _).mono ?_; rintro e w3 ⟨rfl, rfl⟩)
          | (go_at_call 16; refine (word_any _ _ _).mono ?_; rintro e w3 ⟨rfl, hb3⟩; have HBx := Lib.hid (HBx.out.trans (hb3.mono HBx.out.size)); have HBr := Lib.hid (HBr.out.trans (hb3.mono HBr.out.size)); clear hb3)
          | (go_at_call 11; refine (HC.out _ HBr.out).mono ?_; rintro e w5 ⟨rfl, lab5, P5, hL5⟩; have HL5 := Lib.hid hL5; have HBx := Lib.hid hL5.below; clear hL5))
      go_wp2_with fail
      go_roundw
      case rel => exact ⟨k + 1, _, _, by go_num, by omega, HL5⟩
      case measure => simp [intOf]; omega
    · obtain rfl : k = n := by omega
      have hltz : ¬ (k : Int) < k := by omega
      have hmk : ∀ W : World, (Instr.makeSlice 56 (.int .i64 41) (.int .i64 41)).run Tryd.prog W = .ok (.slice (some ⟨W.heap.size, 0, none⟩) 41 41) (W.alloc (.cells (madeCells #[.bool false] 41) 4)) := fun W => run_make_row' (P := Tryd.prog) 56 4 (.bool false) 1 Tryd.underlying56 (by kernel_rfl) rfl .i64 .i64 41 (by omega) (by omega) W
      have hw0 : Ws w1 (wr.alloc (.cells (madeCells #[.bool false] 41) 4)) hp k wr.heap.size (pk l0) (pk l1) lab P (fun _ => false) (.slice none 0 0) (picked l2 0) (.slice none 0 0) (picked l2 0) := by
        refine ⟨⟨HLa.out.below.alloc HLa.out.below.size _, HLa.out.heap.below ((Below.refl _ _).alloc (Nat.le_refl _) _)⟩, ⟨_, _, Blk.new _ _ _, by simp [mcells, made_size], by rw [made_bools]; exact List.take_of_length_le (Nat.le_refl _)⟩, HLa.out.below.size, lab_none HLa.out.heap (Nat.le_refl _), ⟨rfl, .inl ⟨rfl, rfl⟩⟩, fun b e => (by cases e), ⟨rfl, .inl ⟨rfl, rfl⟩⟩, fun b e => (by cases e)⟩
      have HW := Lib.hid hw0
      clear hw0 HLa
      go_wp2_with fail
      clear hmk
      obtain ⟨gm, hgm⟩ : ∃ gm, wr.heap.size = gm := ⟨_, rfl⟩
      rw [hgm] at HW ⊢
      have HGm := Lib.hid hgm
      clear hgm
      go_loopw [12, 13, 14] (fun sv fv i wr => ∃ (j : Nat), i = .int .i64 (j : Int) ∧ j ≤ n2 ∧ Hid (Ws w1 wr hp k gm (pk l0) (pk l1) lab P (fun _ => false) sv (picked l2 j) fv (picked l2 j))) (fun _ _ i _ => n2 - (intOf i).toNat)
      case atStart => exact ⟨0, rfl, Nat.zero_le _, HW⟩
      case round =>
        obtain ⟨j, rfl, hj, HWs⟩ := hrel
        by_cases hjt : j < n2
        · have hjtz : (j : Int) < n2 := by omega
          obtain ⟨g2, o2, rfl, q2⟩ := H2.out (by omega)
          have c2 := q2 wr (HB1.out.trans (HWs.out.laid.below.mono HB1.out.size)) j hjt
          have HP2 := Lib.hid (pick_at l2 j)
          obtain ⟨As, cs, rfl⟩ := slice_of' HWs.out.todo
          obtain ⟨Af, cf, rfl⟩ := slice_of' HWs.out.from'
          clear q2
          go_wp2_with fail
          refine (HP2.out _).mono ?_
          rintro e w5 ⟨rfl, rfl⟩
          go_wp2_with (at_builtin; refine wpList_append_place rfl (.tmp 79) (.tmp 81) 55 rfl w1.heap.size 3 i1 (.int .i64 0) 1 8 Tryd.underlying55 JI.out JZ0.out JZ1.out JZ2.out rfl (by decide) (.slice As (picked l2 j).length cs) (picked l2 j).length (ncells (picked l2 j)) rfl (HWs.out.todo.alloc _) ⟨_, 0, none⟩ 1 1 [.int .i64 (pk l2 j : Int)] rfl rfl (one_cell wr _ _) (one_one rfl) (by as_aux_lemma => (rw [picked_length]; unfold maxLen; omega)) (by as_aux_lemma => (rw [picked_length]; omega)) (by as_aux_lemma => (have := HWs.out.laid.below.size; simp; omega)) ?_)
          intro A6 c6 w6 hap
          have HW6 := Lib.hid (Ws.push (news := [pk l2 j]) HWs.out hap)
          clear hap HWs
          go_wp2_with fail
          refine (word_any _ _ _).mono ?_
          rintro e w7 ⟨rfl, hb7⟩
          have HW7 := Lib.hid (HW6.out.later hb7)
          clear hb7 HW6
          go_wp2_with (at_builtin; refine wpList_append_place rfl (.tmp 83) (.tmp 86) 36 rfl w1.heap.size 28 i0 (.agg #[.int .i64 0, .int .i64 0]) 2 16 Tryd.underlying36 HI.out HZ0.out HZ1.out HZ2.out rfl (by decide) (.slice Af (picked l2 j).length cf) (picked l2 j).length (wcells (wds (picked l2 j))) rfl (HW7.out.from'.alloc _) ⟨_, 0, none⟩ 1 1 [.int .i64 2, .int .i64 (pk l2 j : Int)] rfl rfl (two_cell w7 _ _ _) (two_one _ _) (by as_aux_lemma => (rw [picked_length]; unfold maxLen; omega)) (by as_aux_lemma => (rw [picked_length]; omega)) (by as_aux_lemma => (have := HW7.out.laid.below.size; simp; omega)) ?_)
          intro A8 c8 w8 hap
          have HW8 := Lib.hid (Ws.root (x := pk l2 j) HW7.out hap)
          clear hap HW7
          go_wp2_with fail
          go_roundw
          case rel => exact ⟨j + 1, by go_num, by omega, by rw [picked_succ]; exact HW8⟩
          case measure => simp [intOf]; omega
        · obtain rfl : j = n2 := by omega
          have hjtz : ¬ (j : Int) < j := by omega
          have HD := Lib.hid (DInv.start (a := pk l0) (d := pk l1) k (picked l2 j) (picked_small l2 j))
          obtain ⟨Af, cf, rfl⟩ := slice_of' HWs.out.from'
          have hun := unm_le (fun _ => false) k
          go_wp2_with fail
          go_loopg [12] (2 * unm (fun _ => false) k + (picked l2 j).length) (fun c sv wr => ∃ (m : Nat → Bool) (st : List Nat), Hid (Ws w1 wr hp k gm (pk l0) (pk l1) lab P m sv st (.slice Af (picked l2 j).length cf) (picked l2 j)) ∧ Hid (DInv (pk l0) (pk l1) k (picked l2 j) m st) ∧ Hid (st.length + unm m k ≤ 80) ∧ Hid (2 * unm m k + st.length = c))
          case atStart => exact ⟨_, _, HWs, HD, Lib.hid (by rw [picked_length]; omega), rfl⟩
          case round =>
            obtain ⟨m, st, HW3, HD3, HRm, HK⟩ := hrel
            rcases List.eq_nil_or_concat st with hst | ⟨st', x, hst⟩
            · subst hst
              obtain ⟨A3, c3, hsv⟩ := slice_of' HW3.out.todo
              simp only [List.length_nil] at hsv
              subst hsv
              clear HRm HK
              go_wp2_with fail
              go_loopw [17, 18] (fun c i wr => ∃ (q : Nat), c = .int .i64 (cnt m q : Int) ∧ i = .int .i64 (q : Int) ∧ q ≤ k ∧ Hid (Ws w1 wr hp k gm (pk l0) (pk l1) lab P m (.slice A3 0 c3) [] (.slice Af (picked l2 j).length cf) (picked l2 j))) (fun _ i _ => k - (intOf i).toNat)
              case atStart => exact ⟨0, rfl, rfl, Nat.zero_le _, HW3⟩
              case round =>
                obtain ⟨q, rfl, rfl, hq, HW5⟩ := hrel
                have hle := cnt_le m q
                by_cases hqt : q < k
                · have hqz : (q : Int) < k := by omega
                  have hq41 : q < 41 := by omega
                  have hq41z : (q : Int) < 41 := by omega
                  have c4 := HW5.out.marks.cell q _ (mcells_at 41 m q hq41)
                  cases hm : m q with
                  | true =>
                    rw [hm] at c4
                    have HCs := Lib.hid (show cnt m (q + 1) = cnt m q + 1 by simp [cnt, hm])
                    go_wp2_with fail
                    go_roundw
                    case rel => exact ⟨q + 1, by rw [HCs.out]; go_num, by go_num, by omega, HW5⟩
                    case measure => simp [intOf]; omega
                  | false =>
                    rw [hm] at c4
                    have HCs := Lib.hid (show cnt m (q + 1) = cnt m q by simp [cnt, hm])
                    go_wp2_with fail
                    go_roundw
                    case rel => exact ⟨q + 1, by rw [HCs.out], by go_num, by omega, HW5⟩
                    case measure => simp [intOf]; omega
                · obtain rfl : q = k := by omega
                  have hqz : ¬ (q : Int) < q := by omega
                  have hbase := HW5.out.laid.below.size
                  have hroots : SlR wr (.slice Af (picked l2 j).length cf) (wds (picked l2 j)).length (wcells (wds (picked l2 j))) := by rw [wds_length]; exact SlR.of_own HW5.out.from'
                  have hc1 := collect_any HW5.out.laid.heap hbase _ (wds (picked l2 j)) hroots (by rw [wds_length, picked_length]; omega)
                  rw [col_gone HD3.out (by omega), HD3.out.done] at hc1
                  have HC1 := Lib.hid hc1
                  have HBa := Lib.hid hbase
                  clear hbase hroots hc1
                  go_wp2_with fail
                  refine HC1.out.mono ?_
                  rintro e w5 ⟨rfl, lab5, P5, hI5, hA5⟩
                  have hb5 := HW5.out.laid.below.trans (after_below HW5.out.laid.heap HBa.out hA5)
                  have hm5 := HW5.out.marks.keeps hA5.keeps (by unfold Of; rw [HW5.out.gml]; simp)
                  have hf5 := owns_keeps HW5.out.from' hA5.keeps (fun b e => by unfold Of; rw [(HW5.out.froml b e).1]; simp)
                  have hgl5 := after_lab hA5 HW5.out.marks.lt HW5.out.gml
                  have hmy := many_any hI5
                  rw [col_many q 50 m (by omega)] at hmy
                  have HMy := Lib.hid hmy
                  have HX5 := Lib.hid (And.intro hb5 (And.intro hm5 (And.intro hf5 (And.intro hgl5 hI5))))
                  clear hb5 hm5 hf5 hgl5 hI5 hA5 hmy HC1 HW5
                  go_wp2_with fail
                  refine HMy.out.mono ?_
                  rintro e w6 ⟨rfl, q6, hw6⟩
                  have hk6 : Below w5.heap.size w5 w6 := by subst hw6; exact ⟨rfl, rfl, rfl, Nat.le_refl _, fun _ _ => rfl⟩
                  have hb6 := HX5.out.1.trans (hk6.mono HX5.out.1.size)
                  have hI6 := HX5.out.2.2.2.2.below hk6
                  have hroots : SlR w6 (.slice Af (picked l2 j).length cf) (wds (picked l2 j)).length (wcells (wds (picked l2 j))) := by rw [wds_length]; exact SlR.of_own (owns_below HX5.out.2.2.1 hk6)
                  have hc2 := collect_any hI6 hb6.size _ (wds (picked l2 j)) hroots (by rw [wds_length, picked_length]; omega)
                  rw [col_again HD3.out, Int.sub_self] at hc2
                  have HC2 := Lib.hid hc2
                  have HX6 := Lib.hid (And.intro hb6 (And.intro hI6 (HX5.out.2.1.below hk6)))
                  have HG6 := Lib.hid HX5.out.2.2.2.1
                  clear hw6 hk6 hb6 hI6 hroots hc2 HX5 HMy
                  go_wp2_with fail
                  refine HC2.out.mono ?_
                  rintro e w7 ⟨rfl, lab7, P7, hI7, hA7⟩
                  have hF7 : Fin w1 w7 hp q gm (pk l0) (pk l1) m lab7 P7 := ⟨HX6.out.1.trans (after_below HX6.out.2.1 HX6.out.1.size hA7), hI7, HX6.out.2.2.keeps hA7.keeps (by unfold Of; rw [HG6.out]; simp)⟩
                  have HF7 := Lib.hid hF7
                  clear hI7 hA7 hF7 HX6 HG6 HC2
                  go_wp2_with fail
                  go_loopw [19] (fun i wr => ∃ (r : Nat) (lab : Nat → Option Lab) (P : Parts), i = .int .i64 (r : Int) ∧ r ≤ q ∧ Hid (Fin w1 wr hp q gm (pk l0) (pk l1) m lab P)) (fun i _ => q - (intOf i).toNat)
                  case atStart => exact ⟨0, _, _, rfl, Nat.zero_le _, HF7⟩
                  case round =>
                    obtain ⟨r, labr, Pr, rfl, hr, HF⟩ := hrel
                    by_cases hrt : r < q
                    · have hrz : (r : Int) < q := by omega
                      have hr41 : r < 41 := by omega
                      have hr41z : (r : Int) < 41 := by omega
                      have hrn : (r : Int) < n1 := by omega
                      have hrn2 : r < n1 := by omega
                      obtain ⟨g0, o0, rfl, q0⟩ := H0.out (by omega)
                      obtain ⟨g1, o1, rfl, q1⟩ := H1.out (by omega)
                      have HQ0 := Lib.hid (fun W (hb : Below w1.heap.size w1 W) => q0 W (HB1.out.trans (hb.mono HB1.out.size)) r hrt)
                      have HQ1 := Lib.hid (fun W (hb : Below w1.heap.size w1 W) => q1 W (HB1.out.trans (hb.mono HB1.out.size)) r (by omega))
                      clear q0 q1
                      go_wp2_with fail
                      refine (word_any _ _ _).mono ?_
                      rintro e w3 ⟨rfl, hb3⟩
                      have hF3 := (HF.out.later hb3).later ((Below.refl _ _).alloc (Nat.le_refl _) (.cells #[.int .i64 2, .int .i64 (r : Int)] 28))
                      have hcar := (car_any hF3.heap (2, (r : Int))).at
                      have HN3 := Lib.hid (Blk.new w3 #[.int .i64 2, .int .i64 (r : Int)] 28)
                      rw [col_car q r m hrt] at hcar
                      have HF3 := Lib.hid hF3
                      clear hb3 hF3
                      cases hm : m r with
                      | true =>
                        rw [hm] at hcar
                        simp only [if_true, Bool.false_eq_true, if_false] at hcar
                        have HCar := Lib.hid hcar
                        clear hcar
                        go_wp2_with fail
                        refine HCar.out.mono ?_
                        rintro e w4 ⟨rfl, hb4⟩
                        have hF4 := (HF3.out.later hb4).later ((Below.refl _ _).alloc (Nat.le_refl _) (.cells #[.int .i64 2, .int .i64 (pk l0 r : Int)] 28))
                        have hn4 := HN3.out.below hb4
                        have c1 := hn4.cell 0 _ rfl
                        have c2 := hn4.cell 1 _ rfl
                        have d1 := more c1
                        have d2 := more c2
                        have hcdr := (cdr_any hF4.heap (2, (r : Int))).at
                        rw [col_cdr q r m hrt, hm] at hcdr
                        simp only [if_true, Bool.false_eq_true, if_false] at hcdr
                        have HCdr := Lib.hid hcdr
                        have HF4 := Lib.hid hF4
                        have HN4 := Lib.hid (And.intro (hn4.alloc (.cells #[.int .i64 2, .int .i64 (pk l0 r : Int)] 28)) (Blk.new w4 #[.int .i64 2, .int .i64 (pk l0 r : Int)] 28))
                        clear hcdr hF4 hb4 hn4 HCar HF3 HN3
                        go_wp2_with fail
                        refine HCdr.out.mono ?_
                        rintro e w5 ⟨rfl, hb5⟩
                        have hF5 := (HF4.out.later hb5).later ((Below.refl _ _).alloc (Nat.le_refl _) (.cells #[.int .i64 2, .int .i64 (pk l1 r : Int)] 28))
                        have hn5 := (HN4.out.1.below hb5).alloc (.cells #[.int .i64 2, .int .i64 (pk l1 r : Int)] 28)
                        have hn6 := (HN4.out.2.below hb5).alloc (.cells #[.int .i64 2, .int .i64 (pk l1 r : Int)] 28)
                        have hn7 := Blk.new w5 #[.int .i64 2, .int .i64 (pk l1 r : Int)] 28
                        have hlive := live_any hF5.heap (2, (r : Int))
                        rw [col_live q r m hrt, hm] at hlive
                        obtain ⟨W5, hW5⟩ : ∃ W5, w5.alloc (.cells #[.int .i64 2, .int .i64 (pk l1 r : Int)] 28) = W5 := ⟨_, rfl⟩
                        rw [hW5] at hF5 hn5 hn6 hn7 hlive
                        have HLv := Lib.hid hlive
                        have HF5 := Lib.hid hF5
                        have HN := Lib.hid (And.intro hn5 (And.intro hn6 hn7))
                        have HW5e := Lib.hid hW5
                        clear hF5 hn5 hn6 hn7 hlive hb5 HF4 HN4 HCdr c1 c2 d1 d2 hW5
                        go_wp2_with fail
                        rw [HW5e.out]
                        have p1 := fun x : Grown W5 => (HN.out.1.below x.below).cell 0 _ rfl
                        have p2 := fun x : Grown W5 => (HN.out.1.below x.below).cell 1 _ rfl
                        have p3 := fun x : Grown W5 => (HF5.out.marks.below x.below).cell r _ (mcells_at 41 m r hr41)
                        rw [hm] at p3
                        refine wp_region_grown W5 (Below.refl _ _) (by kernel_rfl) (by kernel_rfl) ?_
                        repeat (go_big_quiet_step ((go_at_call 32; exact grown_call HLv.out)))
                        refine wpQuiet_nil ?_
                        rintro _ ⟨x, rfl⟩
                        have HFx := Lib.hid (HF5.out.later x.below)
                        clear p1 p2 p3
                        have p3 := fun y : Grown x.w => (HFx.out.marks.below y.below).cell r _ (mcells_at 41 m r hr41)
                        rw [hm] at p3
                        have p4 := fun y : Grown x.w => (HN.out.2.1.below (x.below.trans (y.below.mono x.below.size))).cell 0 _ rfl
                        have p5 := fun y : Grown x.w => (HN.out.2.1.below (x.below.trans (y.below.mono x.below.size))).cell 1 _ rfl
                        have p6 := fun y : Grown x.w => (HN.out.2.2.below (x.below.trans (y.below.mono x.below.size))).cell 0 _ rfl
                        have p7 := fun y : Grown x.w => (HN.out.2.2.below (x.below.trans (y.below.mono x.below.size))).cell 1 _ rfl
                        have p8 := fun y : Grown x.w => HQ0.out y.w (HFx.out.below.trans (y.below.mono HFx.out.below.size))
                        have p9 := fun y : Grown x.w => HQ1.out y.w (HFx.out.below.trans (y.below.mono HFx.out.below.size))
                        go_wp2_with fail
                        refine wp_region_grown x.w (Below.refl _ _) (by kernel_rfl) (by kernel_rfl) ?_
                        repeat (go_big_quiet_step ((first
                          | (go_at_call 16; exact grown_call (fun w _ => word_any _ _ w))
                          | (go_at_call 24; exact grown_call (fun w _ => (pick_at _ r w).mono fun e w' ⟨he, hw⟩ => ⟨he, by subst hw; exact Below.refl _ _⟩)))))
                        refine wpQuiet_nil ?_
                        rintro _ ⟨y, rfl⟩
                        have HFy := Lib.hid (HFx.out.later y.below)
                        clear p3 p4 p5 p6 p7 p8 p9
                        go_wp2_with fail
                        go_roundw
                        case rel => exact ⟨r + 1, _, _, by go_num, by omega, HFy⟩
                        case measure => simp [intOf]; omega
                      | false =>
                        rw [hm] at hcar
                        simp only [if_true, Bool.false_eq_true, if_false] at hcar
                        have HCar := Lib.hid hcar
                        clear hcar
                        go_wp2_with fail
                        refine HCar.out.mono ?_
                        rintro e w4 ⟨rfl, hb4⟩
                        have hF4 := (HF3.out.later hb4).later ((Below.refl _ _).alloc (Nat.le_refl _) (.cells #[.int .i64 0, .int .i64 0] 28))
                        have hn4 := HN3.out.below hb4
                        have c1 := hn4.cell 0 _ rfl
                        have c2 := hn4.cell 1 _ rfl
                        have d1 := more c1
                        have d2 := more c2
                        have hcdr := (cdr_any hF4.heap (2, (r : Int))).at
                        rw [col_cdr q r m hrt, hm] at hcdr
                        simp only [if_true, Bool.false_eq_true, if_false] at hcdr
                        have HCdr := Lib.hid hcdr
                        have HF4 := Lib.hid hF4
                        have HN4 := Lib.hid (And.intro (hn4.alloc (.cells #[.int .i64 0, .int .i64 0] 28)) (Blk.new w4 #[.int .i64 0, .int .i64 0] 28))
                        clear hcdr hF4 hb4 hn4 HCar HF3 HN3
                        go_wp2_with fail
                        refine HCdr.out.mono ?_
                        rintro e w5 ⟨rfl, hb5⟩
                        have hF5 := (HF4.out.later hb5).later ((Below.refl _ _).alloc (Nat.le_refl _) (.cells #[.int .i64 0, .int .i64 0] 28))
                        have hn5 := (HN4.out.1.below hb5).alloc (.cells #[.int .i64 0, .int .i64 0] 28)
                        have hn6 := (HN4.out.2.below hb5).alloc (.cells #[.int .i64 0, .int .i64 0] 28)
                        have hn7 := Blk.new w5 #[.int .i64 0, .int .i64 0] 28
                        have hlive := live_any hF5.heap (2, (r : Int))
                        rw [col_live q r m hrt, hm] at hlive
                        obtain ⟨W5, hW5⟩ : ∃ W5, w5.alloc (.cells #[.int .i64 0, .int .i64 0] 28) = W5 := ⟨_, rfl⟩
                        rw [hW5] at hF5 hn5 hn6 hn7 hlive
                        have HLv := Lib.hid hlive
                        have HF5 := Lib.hid hF5
                        have HN := Lib.hid (And.intro hn5 (And.intro hn6 hn7))
                        have HW5e := Lib.hid hW5
                        clear hF5 hn5 hn6 hn7 hlive hb5 HF4 HN4 HCdr c1 c2 d1 d2 hW5
                        go_wp2_with fail
                        rw [HW5e.out]
                        have p1 := fun x : Grown W5 => (HN.out.1.below x.below).cell 0 _ rfl
                        have p2 := fun x : Grown W5 => (HN.out.1.below x.below).cell 1 _ rfl
                        have p3 := fun x : Grown W5 => (HF5.out.marks.below x.below).cell r _ (mcells_at 41 m r hr41)
                        rw [hm] at p3
                        refine wp_region_grown W5 (Below.refl _ _) (by kernel_rfl) (by kernel_rfl) ?_
                        repeat (go_big_quiet_step ((go_at_call 32; exact grown_call HLv.out)))
                        refine wpQuiet_nil ?_
                        rintro _ ⟨x, rfl⟩
                        have HFx := Lib.hid (HF5.out.later x.below)
                        clear p1 p2 p3
                        have p3 := fun y : Grown x.w => (HFx.out.marks.below y.below).cell r _ (mcells_at 41 m r hr41)
                        rw [hm] at p3
                        go_wp2_with fail
                        refine wp_region_grown x.w (Below.refl _ _) (by kernel_rfl) (by kernel_rfl) ?_
                        repeat (go_big_quiet_step ((first
                          | (go_at_call 16; exact grown_call (fun w _ => word_any _ _ w))
                          | (go_at_call 24; exact grown_call (fun w _ => (pick_at _ r w).mono fun e w' ⟨he, hw⟩ => ⟨he, by subst hw; exact Below.refl _ _⟩)))))
                        refine wpQuiet_nil ?_
                        rintro _ ⟨y, rfl⟩
                        have HFy := Lib.hid (HFx.out.later y.below)
                        clear p3
                        go_wp2_with fail
                        go_roundw
                        case rel => exact ⟨r + 1, _, _, by go_num, by omega, HFy⟩
                        case measure => simp [intOf]; omega
                    · have hrz : ¬ (r : Int) < q := by omega
                      have HBf := Lib.hid (HB1.out.trans (HF.out.below.mono HB1.out.size))
                      go_wp2_with fail
                      go_ret
                      exact ⟨rfl, HBf.out⟩
            · rw [List.concat_eq_append] at hst
              subst hst
              obtain ⟨gs, cs, hsv⟩ : ∃ gs cs, u12 = .slice (some ⟨gs, 0, none⟩) (st'.length + 1) cs := by
                rcases HW3.out.todo.2 with ⟨_, h0⟩ | ⟨g, cap, cur, hv, _⟩
                · simp at h0
                · exact ⟨g, cap, by simpa using hv⟩
              subst hsv
              have hown := HW3.out.todo
              rw [show (st' ++ [x]).length = st'.length + 1 by simp] at hown
              have hcap : st'.length + 1 ≤ cs ∧ cs ≤ 9223372036854775807 := by
                rcases hown.2 with ⟨h, _⟩ | ⟨g', cap, cur, hh, _, _, h1, h2, _⟩
                · cases h
                · cases hh; exact ⟨h1, by unfold maxLen at h2; omega⟩
              obtain ⟨hcap1, hcap2⟩ := hcap
              have hx41 := HD3.out.small x (by simp)
              have hcell : wr.cell? ⟨gs, st'.length, none⟩ = some (.int .i64 (x : Int)) := (Row.of_owns hown).cell st'.length _ (by unfold ncells; simp)
              have HWp := Lib.hid HW3.out.pop
              have hroom : st'.length + 1 + unm m k ≤ 80 := by have := HRm.out; simp at this; omega
              have HMe := Lib.hid (show 2 * unm m k + st'.length + 1 = gk by have := HK.out; simp at this; omega)
              have hst2 : st'.length ≤ 80 := by omega
              clear hown HRm HK
              by_cases hxk : k ≤ x
              · have hz : (k : Int) ≤ (x : Int) := by omega
                have HDs := Lib.hid (HD3.out.skip (.inl hxk))
                have HRs := Lib.hid (show st'.length + unm m k ≤ 80 by omega)
                clear hroom HD3 HW3
                go_wp2_with fail
                go_roundg (2 * unm m k + st'.length)
                case measure => have := HMe.out; omega
                case rel => exact ⟨m, st', HWp, HDs, HRs, rfl⟩
              · have hz : ¬ (k : Int) ≤ (x : Int) := by omega
                have hx41z : (x : Int) < 41 := by omega
                have c4 := HW3.out.marks.cell x _ (mcells_at 41 m x hx41)
                by_cases hm : m x = true
                · rw [hm] at c4
                  have HDs := Lib.hid (HD3.out.skip (.inr hm))
                  have HRs := Lib.hid (show st'.length + unm m k ≤ 80 by omega)
                  clear hroom HD3 HW3 hm
                  go_wp2_with fail
                  go_roundg (2 * unm m k + st'.length)
                  case measure => have := HMe.out; omega
                  case rel => exact ⟨m, st', HWp, HDs, HRs, rfl⟩
                · have hmf : m x = false := by simpa using hm
                  rw [hmf] at c4
                  have f4 := HW3.out.marks.free x
                  have HM := Lib.hid (HWp.out.mark (x := x)).laid.below
                  have HMd := Lib.hid ((HWp.out.mark (x := x)).later (Below.refl _ _).drew)
                  obtain ⟨g0, o0, rfl, q0⟩ := H0.out (by omega)
                  obtain ⟨g1, o1, rfl, q1⟩ := H1.out (by omega)
                  have Q0 := Lib.hid (fun W (hb : Below w1.heap.size w1 W) => q0 W (HB1.out.trans (hb.mono HB1.out.size)) x (by omega))
                  have Q1 := Lib.hid (fun W (hb : Below w1.heap.size w1 W) => q1 W (HB1.out.trans (hb.mono HB1.out.size)) x (by omega))
                  have HDv := Lib.hid (HD3.out.visit (by omega) (pk_lt l0 x) (pk_lt l1 x))
                  have hum := unm_mark m k x (by omega) hmf
                  have HRv := Lib.hid (show (st' ++ [pk l0 x, pk l1 x]).length + unm (markAt m x) k ≤ 80 by simp; omega)
                  have HMv := Lib.hid (show 2 * unm (markAt m x) k + (st' ++ [pk l0 x, pk l1 x]).length < gk by have := HMe.out; simp; omega)
                  have hxk2 : (x : Int) < k := by omega
                  have hxk3 : (x : Int) < n1 := by omega
                  have hxk4 : x < n1 := by omega
                  have HBx := Lib.hid HM.out.drew
                  have hbd1 : st'.length + 2 ≤ maxLen := by unfold maxLen; omega
                  have hbd2 : (st'.length + 2) * 8 ≤ 140737488355328 := by omega
                  have HBd := Lib.hid (And.intro hbd1 hbd2)
                  have HSz := Lib.hid HBx.out.size
                  clear hroom HD3 HW3 hm hmf q0 q1 hum HMe hbd1 hbd2
                  go_wp2_with fail
                  obtain ⟨wm, hwm⟩ : ∃ wm, wr.setCell ⟨gm, x, none⟩ (.bool true) = wm := ⟨_, rfl⟩
                  rw [hwm] at HM HMd HBx HSz ⊢
                  clear hwm
                  go_region_held3 (fun w' => w'.cell? ⟨g0, o0 + x, none⟩ = some (.int .i64 (l0.getD x 0)) ∧ w'.cell? ⟨g1, o1 + x, none⟩ = some (.int .i64 (l1.getD x 0)))
                    (first | exact ⟨Q0.out _ HBx.out, Q1.out _ HBx.out⟩ | exact ⟨Q0.out _ (HBx.out.alloc HBx.out.size _), Q1.out _ (HBx.out.alloc HBx.out.size _)⟩)
                    (first
                      | (refine step_append_row rfl (.tmp 114) (.tmp 125) 55 rfl w1.heap.size 3 i1 (.int .i64 0) 1 8 Tryd.underlying55 JI.out JZ0.out JZ1.out JZ2.out rfl (by decide) (.slice (some ⟨gs, 0, none⟩) st'.length cs) st'.length (ncells st') (by rfl) (HMd.out.todo.alloc _) ⟨_, 0, none⟩ 2 2 [.int .i64 (pk l0 x : Int), .int .i64 (pk l1 x : Int)] (by rfl) rfl (two_cell wm.drew _ _ _) (two_one _ _) HBd.out.1 HBd.out.2 (by simp; exact Nat.le_succ_of_le HSz.out) ?_; intro A4 c4' w4 hap; have HW4 := Lib.hid (Ws.push (news := [pk l0 x, pk l1 x]) HMd.out hap); have HBx := Lib.hid HW4.out.laid.below; clear hap)
                      | (go_at_call 24; refine (pick_at _ x _).mono ?_; rintro e w3 ⟨rfl, rfl⟩))
                  go_wp2_with fail
                  go_roundg (2 * unm (markAt m x) k + (st' ++ [pk l0 x, pk l1 x]).length)
                  case measure => exact HMv.out
                  case rel => exact ⟨_, _, HW4, HDv, HRv, rfl⟩

theorem walk (v0 : Value) (l0 : List Int) (v1 : Value) (l1 : List Int) (v2 : Value) (l2 : List Int) (w : World)
    (h0 : SlR w v0 l0.length (l0.map (Value.int .i64))) (b0 : l0.length ≤ 9223372036854775807) (h1 : SlR w v1 l1.length (l1.map (Value.int .i64))) (b1 : l1.length ≤ 9223372036854775807) (h2 : SlR w v2 l2.length (l2.map (Value.int .i64))) (b2 : l2.length ≤ 9223372036854775807) (hT : Tabs w) :
    Calls Tryd.prog 6 #[v0, v1, v2] w fun e w' => e = .returned (.bool true) ∧ Below w.heap.size w w' := by
  obtain ⟨A0, c0, rfl, k0, r0⟩ := h0
  obtain ⟨A1, c1, rfl, k1, r1⟩ := h1
  obtain ⟨A2, c2, rfl, k2, r2⟩ := h2
  by_cases hl : 40 < l0.length ∨ l1.length < l0.length ∨ 40 < l2.length
  · exact light_any A0 A1 A2 _ c0 _ c1 _ c2 w hT b0 b1 b2 hl
  · exact core A0 A1 A2 _ c0 _ c1 _ c2 l0 l1 l2 w ⟨_, _, rfl, k0, r0⟩ rfl ⟨_, _, rfl, k1, r1⟩ rfl ⟨_, _, rfl, k2, r2⟩ rfl (by omega) (by omega) b1 (by omega) hT
end Go.Proofs.YtpofmbigclonlaaDoor.LawCollect
