/- NamesOnce: the core of the walk. -/
import Derived.Test.YtcdlfgggmigcnaaDoorNtOnce
import Derived.Test.YtcdlfgggmigcnaaDoorNtGrown
import Derived.LoopTactic
import Derived.Deep.LoopGhost
namespace Go.Proofs.YtcdlfgggmigcnaaDoor.Nt
set_option maxRecDepth 100000
open Go.RowKit
open Go.Lib (validD)
open Go.Proofs.YtcdlfgggmigcnaaDoor.Own Go.Proofs.YtcdlfgggmigcnaaDoor.Strs Go.Proofs.YtcdlfgggmigcnaaDoor.NtRef Go.Proofs.YtcdlfgggmigcnaaDoor.Clone Go.Proofs.YtcdlfgggmigcnaaDoor.NtArgs

set_option maxHeartbeats 8000000 in
theorem once_core (A0 A1 : Option Addr) (n c0 n1 c1 : Nat) (L : List ByteArray) (B : List Bool) (w : World) (h0 : SlR w (.slice A0 n c0) n (L.map Value.string)) (e0 : L.length = n) (h1 : SlR w (.slice A1 n1 c1) n1 (B.map Value.bool)) (e1 : B.length = n1)
    (hn : n ≤ 60) (hn1 : n ≤ n1) (hm1 : n1 ≤ 9223372036854775807) (hsz : ∀ s ∈ L, s.size ≤ 300) (hlt : (shortL L 300 && decide (n ≤ 60)) = true) (hT : Tabs w) :
    Calls Tryd.prog 10 #[.slice A0 n c0, .slice A1 n1 c1] w fun e w' => e = .returned (.bool true) ∧ Below w.heap.size w w' := by
  have HL := Lib.hid (lives_any w hT)
  have HLt := Lib.hid (light_texts A0 n c0 L w h0 e0 (by omega) (fun s hs => by have := hsz s hs; unfold maxLen; omega))
  rw [hlt] at HLt
  have z1 : ¬ (n1 : Int) < n := by omega
  have H0 := Lib.hid (fun hp => slr_at h0 hp)
  have H1 := Lib.hid (fun hp => slr_at h1 hp)
  have HE0 := Lib.hid e0
  have HE1 := Lib.hid e1
  have HSz := Lib.hid hsz
  have HT := Lib.hid hT
  obtain ⟨i1, hi, hz0, hz1, hz2⟩ := info_parts Nt.int_info
  have JI := Lib.hid hi
  have JZ0 := Lib.hid hz0
  have JZ1 := Lib.hid hz1
  have JZ2 := Lib.hid hz2
  clear hi hz0 hz1 hz2 h0 h1 e0 e1 hsz hlt hT
  go_enter Tryd.func10, Tryd.ntmps10
  go_wp2_with fail
  refine HL.out.mono ?_
  rintro e w1 ⟨rfl, hb1⟩
  have HB1 := Lib.hid hb1
  have HT1 := Lib.hid (HT.out.below hb1)
  have HNew := Lib.hid (new_any w1 HT1.out)
  go_wp2_with fail
  refine (HLt.out _ hb1).mono ?_
  rintro e w1' ⟨rfl, rfl⟩
  clear hb1
  obtain ⟨tp, htp⟩ : ∃ tp, w1.heap.size + 1 = tp := ⟨_, rfl⟩
  rw [htp] at HNew
  clear htp
  go_wp2_with fail
  refine HNew.out.mono ?_
  rintro e w2 ⟨rfl, hb2, lab2, P2, hI2⟩
  have hO2 : Once w1 w2 tp t0 lab2 P2 (.slice none 0 0) L B 0 [] := ⟨hI2, hb2, ⟨rfl, .inl ⟨rfl, rfl⟩⟩, fun b e => (by cases e), t0_wf, by rw [t0_length]; omega, fun i s b hi => by omega⟩
  have HO2 := Lib.hid hO2
  have HM2 := Lib.hid (many_any hI2)
  clear hO2 hb2 hI2
  go_wp2_with fail
  refine HM2.out.mono ?_
  rintro e w3 ⟨rfl, rfl⟩
  clear HM2
  go_wp2_with fail
  go_loopw [6, 7, 8] (fun nx av i wr => ∃ (k : Nat) (t : Tb) (lab : Nat → Option TLab) (P : TParts) (a : List Int), nx = .int .i64 (t.syms.length : Int) ∧ i = .int .i64 (k : Int) ∧ k ≤ n ∧ Hid (Once w1 wr tp t lab P av L B k a)) (fun _ _ i _ => n - (intOf i).toNat)
  case atStart => exact ⟨0, t0, _, _, [], rfl, rfl, Nat.zero_le _, HO2⟩
  case round =>
    obtain ⟨k, t, lab, P, a, rfl, rfl, hk, HO⟩ := hrel
    by_cases hlt : k < n
    · have hltz : (k : Int) < n := by omega
      have hltz1 : (k : Int) < n1 := by omega
      obtain ⟨g0, o0, rfl, q0⟩ := H0.out (by omega)
      obtain ⟨g1, o1, rfl, q1⟩ := H1.out (by omega)
      obtain ⟨s, hs⟩ : ∃ s, L[k]? = some s := ⟨L[k]'(by rw [HE0.out]; exact hlt), List.getElem?_eq_getElem _⟩
      obtain ⟨b, hb⟩ : ∃ b, B[k]? = some b := ⟨B[k]'(by rw [HE1.out]; omega), List.getElem?_eq_getElem _⟩
      have Q0 := Lib.hid (fun W (hW : Below w1.heap.size w1 W) => q0 W (HB1.out.trans (hW.mono HB1.out.size)) k (.string s) (by rw [List.getElem?_map, hs]; rfl))
      have Q1 := Lib.hid (fun W (hW : Below w1.heap.size w1 W) => q1 W (HB1.out.trans (hW.mono HB1.out.size)) k (.bool b) (by rw [List.getElem?_map, hb]; rfl))
      have c0 := Q0.out wr HO.out.below
      have hss := HSz.out s (List.mem_of_getElem? hs)
      have hcnt := HO.out.cnt
      have HVal := Lib.hid (fun W => ref_valid s W (by omega))
      obtain ⟨Aa, ca, rfl⟩ := slice_of' HO.out.row
      clear q0 q1
      cases b with
      | true =>
        rcases internO_ext t s HO.out.wf hss (by omega) with ⟨m, hf, hv, hio⟩ | ⟨hf, hv, hio⟩ | ⟨hf, hv, hio⟩
        · rw [hv] at HVal
          have cf := find_any HO.out.tab s (by unfold maxLen; omega)
          rw [hf] at cf
          simp only [Option.getD_some, Option.isSome_some] at cf
          have CF := Lib.hid cf
          clear cf
          go_wp2_with fail
          refine CF.out.mono ?_
          rintro e w2 ⟨rfl, rfl⟩
          have c1 := Q1.out wr HO.out.below
          have cc := intern_any HO.out.tab HO.out.below.size s (by omega) (HT1.out.below HO.out.below)
          rw [hio] at cc
          have CC := Lib.hid cc
          clear cc CF
          go_wp2_with fail
          refine CC.out.mono ?_
          rintro e w3 ⟨rfl, ho⟩
          obtain ⟨lab3, P3, h3⟩ := HO.out.call (s := s) (b := true) (x := (m : Int)) ho (Ext.refl t) (HO.out.wf) (by omega) (fun _ => ⟨m, rfl, rec_found HO.out.wf hf⟩)
          have c2 := Q0.out w3 h3.below
          have H3 := Lib.hid h3
          clear h3 ho CC c0 c1
          go_wp2_with fail
          refine (HVal.out _).mono ?_
          rintro e w4 ⟨rfl, hb4⟩
          have H4 := Lib.hid (H3.out.later hb4)
          clear hb4 H3 c2
          go_wp2_with (at_builtin; refine wpList_append_place rfl (.tmp 78) (.tmp 80) 55 rfl w1.heap.size 3 i1 (.int .i64 0) 1 8 Tryd.underlying55 JI.out JZ0.out JZ1.out JZ2.out rfl (by decide) (.slice Aa k ca) k (a.map (Value.int .i64)) rfl (H4.out.row.alloc _) ⟨_, 0, none⟩ 1 1 [.int .i64 (m : Int)] rfl rfl (one_cellN w4 _ _) (one_oneN rfl) (by as_aux_lemma => (unfold maxLen; omega)) (by as_aux_lemma => omega) (by as_aux_lemma => (have := H4.out.below.size; simp; omega)) ?_)
          intro A5 c5 w5 hap
          have H5 := Lib.hid (H4.out.push hs hb hap)
          clear hap H4
          have c3 := Q1.out w5 H5.out.below
          go_wp2_with fail
          go_roundw
          case rel => exact ⟨k + 1, _, _, _, _, rfl, by go_num, by omega, H5⟩
          case measure => simp [intOf]; omega
        · rw [hv] at HVal
          have cf := find_any HO.out.tab s (by unfold maxLen; omega)
          rw [hf] at cf
          simp only [Option.getD_none, Option.isSome_none] at cf
          have CF := Lib.hid cf
          clear cf
          go_wp2_with fail
          refine CF.out.mono ?_
          rintro e w2 ⟨rfl, rfl⟩
          have c1 := Q1.out wr HO.out.below
          have cc := intern_any HO.out.tab HO.out.below.size s (by omega) (HT1.out.below HO.out.below)
          rw [hio] at cc
          have CC := Lib.hid cc
          clear cc CF
          go_wp2_with fail
          refine CC.out.mono ?_
          rintro e w3 ⟨rfl, ho⟩
          obtain ⟨lab3, P3, h3⟩ := HO.out.call (s := s) (b := true) (x := (t.syms.length : Int)) ho (ext_intern t s hf) (HO.out.wf.intern s hv) (by rw [List.length_append]; simp; omega) (fun _ => ⟨_, rfl, rec_intern s⟩)
          have c2 := Q0.out w3 h3.below
          have H3 := Lib.hid h3
          clear h3 ho CC c0 c1
          go_wp2_with fail
          refine (HVal.out _).mono ?_
          rintro e w4 ⟨rfl, hb4⟩
          have H4 := Lib.hid (H3.out.later hb4)
          clear hb4 H3 c2
          go_wp2_with (at_builtin; refine wpList_append_place rfl (.tmp 78) (.tmp 80) 55 rfl w1.heap.size 3 i1 (.int .i64 0) 1 8 Tryd.underlying55 JI.out JZ0.out JZ1.out JZ2.out rfl (by decide) (.slice Aa k ca) k (a.map (Value.int .i64)) rfl (H4.out.row.alloc _) ⟨_, 0, none⟩ 1 1 [.int .i64 (t.syms.length : Int)] rfl rfl (one_cellN w4 _ _) (one_oneN rfl) (by as_aux_lemma => (unfold maxLen; omega)) (by as_aux_lemma => omega) (by as_aux_lemma => (have := H4.out.below.size; simp; omega)) ?_)
          intro A5 c5 w5 hap
          have H5 := Lib.hid (H4.out.push hs hb hap)
          clear hap H4
          have c3 := Q1.out w5 H5.out.below
          have HInt := Lib.hid (fun W (hb : Below w5.heap.size w5 W) => interned_any (H5.out.tab.below hb) (t.syms.length : Int))
          rw [interned_new s] at HInt
          have p1 := fun x : Grown w5 => Q1.out x.w (H5.out.below.trans (x.below.mono H5.out.below.size))
          go_wp2_with fail
          refine wp_region_grown w5 (Below.refl _ _) (by kernel_rfl) (by kernel_rfl) ?_
          repeat (go_big_quiet_step ((go_at_call 47; exact grown_call HInt.out)))
          refine wpQuiet_nil ?_
          rintro _ ⟨x6, rfl⟩
          have H6 := Lib.hid (H5.out.later x6.below)
          clear p1
          go_wp2_with fail
          go_roundw
          case rel => exact ⟨k + 1, _, _, _, _, (by rw [List.length_append]; simp), by go_num, by omega, H6⟩
          case measure => simp [intOf]; omega
        · rw [hv] at HVal
          have cf := find_any HO.out.tab s (by unfold maxLen; omega)
          rw [hf] at cf
          simp only [Option.getD_none, Option.isSome_none] at cf
          have CF := Lib.hid cf
          clear cf
          go_wp2_with fail
          refine CF.out.mono ?_
          rintro e w2 ⟨rfl, rfl⟩
          have c1 := Q1.out wr HO.out.below
          have cc := intern_any HO.out.tab HO.out.below.size s (by omega) (HT1.out.below HO.out.below)
          rw [hio] at cc
          have CC := Lib.hid cc
          clear cc CF
          go_wp2_with fail
          refine CC.out.mono ?_
          rintro e w3 ⟨rfl, ho⟩
          obtain ⟨lab3, P3, h3⟩ := HO.out.call (s := s) (b := true) (x := 0) ho (Ext.refl t) (HO.out.wf) (by omega) (fun h => by rw [hv] at h; cases h)
          have c2 := Q0.out w3 h3.below
          have H3 := Lib.hid h3
          clear h3 ho CC c0 c1
          go_wp2_with fail
          refine (HVal.out _).mono ?_
          rintro e w4 ⟨rfl, hb4⟩
          have H4 := Lib.hid (H3.out.later hb4)
          clear hb4 H3 c2
          go_wp2_with (at_builtin; refine wpList_append_place rfl (.tmp 78) (.tmp 80) 55 rfl w1.heap.size 3 i1 (.int .i64 0) 1 8 Tryd.underlying55 JI.out JZ0.out JZ1.out JZ2.out rfl (by decide) (.slice Aa k ca) k (a.map (Value.int .i64)) rfl (H4.out.row.alloc _) ⟨_, 0, none⟩ 1 1 [.int .i64 0] rfl rfl (one_cellN w4 _ _) (one_oneN rfl) (by as_aux_lemma => (unfold maxLen; omega)) (by as_aux_lemma => omega) (by as_aux_lemma => (have := H4.out.below.size; simp; omega)) ?_)
          intro A5 c5 w5 hap
          have H5 := Lib.hid (H4.out.push hs hb hap)
          clear hap H4
          go_wp2_with fail
          go_roundw
          case rel => exact ⟨k + 1, _, _, _, _, rfl, by go_num, by omega, H5⟩
          case measure => simp [intOf]; omega
      | false =>
        cases hv : validD s.data.toList with
        | true =>
          rw [hv] at HVal
          obtain ⟨f0, hf0⟩ : ∃ f0, ((t.find s).getD 0 : Nat) = f0 := ⟨_, rfl⟩
          obtain ⟨f1, hf1⟩ : ∃ f1, (t.find s).isSome = f1 := ⟨_, rfl⟩
          have cf := find_any HO.out.tab s (by unfold maxLen; omega)
          rw [hf0, hf1] at cf
          have CF := Lib.hid cf
          clear cf
          go_wp2_with fail
          refine CF.out.mono ?_
          rintro e w2 ⟨rfl, rfl⟩
          have c1 := Q1.out wr HO.out.below
          have cc := fresh_any HO.out.tab HO.out.below.size s (by omega) (HT1.out.below HO.out.below)
          rw [fresh_valid hss (by omega) hv] at cc
          have CC := Lib.hid cc
          clear cc CF
          go_wp2_with fail
          refine CC.out.mono ?_
          rintro e w3 ⟨rfl, ho⟩
          obtain ⟨lab3, P3, h3⟩ := HO.out.call (s := s) (b := false) (x := (t.syms.length : Int)) ho.ok (ext_fresh t s) (HO.out.wf.fresh s) (by rw [List.length_append]; simp; omega) (fun _ => ⟨_, rfl, rec_fresh HO.out.wf s⟩)
          have c2 := Q0.out w3 h3.below
          have H3 := Lib.hid h3
          clear h3 ho CC c0 c1
          go_wp2_with fail
          refine (HVal.out _).mono ?_
          rintro e w4 ⟨rfl, hb4⟩
          have H4 := Lib.hid (H3.out.later hb4)
          clear hb4 H3 c2
          go_wp2_with (at_builtin; refine wpList_append_place rfl (.tmp 78) (.tmp 80) 55 rfl w1.heap.size 3 i1 (.int .i64 0) 1 8 Tryd.underlying55 JI.out JZ0.out JZ1.out JZ2.out rfl (by decide) (.slice Aa k ca) k (a.map (Value.int .i64)) rfl (H4.out.row.alloc _) ⟨_, 0, none⟩ 1 1 [.int .i64 (t.syms.length : Int)] rfl rfl (one_cellN w4 _ _) (one_oneN rfl) (by as_aux_lemma => (unfold maxLen; omega)) (by as_aux_lemma => omega) (by as_aux_lemma => (have := H4.out.below.size; simp; omega)) ?_)
          intro A5 c5 w5 hap
          have H5 := Lib.hid (H4.out.push hs hb hap)
          clear hap H4
          have c3 := Q1.out w5 H5.out.below
          have HInt := Lib.hid (fun W (hb : Below w5.heap.size w5 W) => interned_any (H5.out.tab.below hb) (t.syms.length : Int))
          rw [interned_fresh HO.out.wf s] at HInt
          have p1 := fun x : Grown w5 => Q1.out x.w (H5.out.below.trans (x.below.mono H5.out.below.size))
          go_wp2_with fail
          refine wp_region_grown w5 (Below.refl _ _) (by kernel_rfl) (by kernel_rfl) ?_
          repeat (go_big_quiet_step ((go_at_call 47; exact grown_call HInt.out)))
          refine wpQuiet_nil ?_
          rintro _ ⟨x6, rfl⟩
          have H6 := Lib.hid (H5.out.later x6.below)
          clear p1
          go_wp2_with fail
          go_roundw
          case rel => exact ⟨k + 1, _, _, _, _, (by rw [List.length_append]; simp), by go_num, by omega, H6⟩
          case measure => simp [intOf]; omega
        | false =>
          rw [hv] at HVal
          obtain ⟨f0, hf0⟩ : ∃ f0, ((t.find s).getD 0 : Nat) = f0 := ⟨_, rfl⟩
          obtain ⟨f1, hf1⟩ : ∃ f1, (t.find s).isSome = f1 := ⟨_, rfl⟩
          have cf := find_any HO.out.tab s (by unfold maxLen; omega)
          rw [hf0, hf1] at cf
          have CF := Lib.hid cf
          clear cf
          go_wp2_with fail
          refine CF.out.mono ?_
          rintro e w2 ⟨rfl, rfl⟩
          have c1 := Q1.out wr HO.out.below
          have cc := fresh_any HO.out.tab HO.out.below.size s (by omega) (HT1.out.below HO.out.below)
          rw [fresh_invalid hv] at cc
          have CC := Lib.hid cc
          clear cc CF
          go_wp2_with fail
          refine CC.out.mono ?_
          rintro e w3 ⟨rfl, ho⟩
          obtain ⟨lab3, P3, h3⟩ := HO.out.call (s := s) (b := false) (x := 0) ho.ok (Ext.refl t) (HO.out.wf) (by omega) (fun h => by rw [hv] at h; cases h)
          have c2 := Q0.out w3 h3.below
          have H3 := Lib.hid h3
          clear h3 ho CC c0 c1
          go_wp2_with fail
          refine (HVal.out _).mono ?_
          rintro e w4 ⟨rfl, hb4⟩
          have H4 := Lib.hid (H3.out.later hb4)
          clear hb4 H3 c2
          go_wp2_with (at_builtin; refine wpList_append_place rfl (.tmp 78) (.tmp 80) 55 rfl w1.heap.size 3 i1 (.int .i64 0) 1 8 Tryd.underlying55 JI.out JZ0.out JZ1.out JZ2.out rfl (by decide) (.slice Aa k ca) k (a.map (Value.int .i64)) rfl (H4.out.row.alloc _) ⟨_, 0, none⟩ 1 1 [.int .i64 0] rfl rfl (one_cellN w4 _ _) (one_oneN rfl) (by as_aux_lemma => (unfold maxLen; omega)) (by as_aux_lemma => omega) (by as_aux_lemma => (have := H4.out.below.size; simp; omega)) ?_)
          intro A5 c5 w5 hap
          have H5 := Lib.hid (H4.out.push hs hb hap)
          clear hap H4
          go_wp2_with fail
          go_roundw
          case rel => exact ⟨k + 1, _, _, _, _, rfl, by go_num, by omega, H5⟩
          case measure => simp [intOf]; omega
    · obtain rfl : k = n := by omega
      have hltz : ¬ (k : Int) < k := by omega
      have hcnt := HO.out.cnt
      obtain ⟨Aa, ca, rfl⟩ := slice_of' HO.out.row
      go_wp2_with fail
      go_loopw [13] (fun i wr => ∃ (j : Nat), i = .int .i64 (j : Int) ∧ j ≤ k ∧ Hid (Once w1 wr tp t lab P (.slice Aa k ca) L B k a)) (fun i _ => k - (intOf i).toNat)
      case atStart => exact ⟨0, rfl, Nat.zero_le _, HO⟩
      case round =>
        obtain ⟨j, rfl, hj, HO1⟩ := hrel
        by_cases hjt : j < k
        · have hjz : (j : Int) < k := by omega
          have hjz1 : (j : Int) < n1 := by omega
          obtain ⟨g0, o0, rfl, q0⟩ := H0.out (by omega)
          obtain ⟨g1, o1, rfl, q1⟩ := H1.out (by omega)
          obtain ⟨s, hs⟩ : ∃ s, L[j]? = some s := ⟨L[j]'(by rw [HE0.out]; exact hjt), List.getElem?_eq_getElem _⟩
          obtain ⟨b, hb⟩ : ∃ b, B[j]? = some b := ⟨B[j]'(by rw [HE1.out]; omega), List.getElem?_eq_getElem _⟩
          have Q0 := Lib.hid (fun W (hW : Below w1.heap.size w1 W) => q0 W (HB1.out.trans (hW.mono HB1.out.size)) j (.string s) (by rw [List.getElem?_map, hs]; rfl))
          have Q1 := Lib.hid (fun W (hW : Below w1.heap.size w1 W) => q1 W (HB1.out.trans (hW.mono HB1.out.size)) j (.bool b) (by rw [List.getElem?_map, hb]; rfl))
          have c0 := Q0.out wr HO1.out.below
          have hss := HSz.out s (List.mem_of_getElem? hs)
          have HVal := Lib.hid (fun W => ref_valid s W (by omega))
          obtain ⟨ga, rfl⟩ : ∃ ga, Aa = some ⟨ga, 0, none⟩ := by
            rcases HO1.out.row.2 with ⟨_, h⟩ | ⟨g, cap, cur, hv, _⟩
            · omega
            · exact ⟨g, by cases hv; rfl⟩
          have hca : k ≤ ca ∧ ca ≤ 9223372036854775807 := by
            rcases HO1.out.row.2 with ⟨h, _⟩ | ⟨g', cap, cur, hh, _, _, h1, h2, _⟩
            · cases h
            · cases hh; exact ⟨h1, by unfold maxLen at h2; omega⟩
          obtain ⟨hca1, hca2⟩ := hca
          clear q0 q1
          cases hv : validD s.data.toList with
          | false =>
            rw [hv] at HVal
            clear hv
            go_wp2_with fail
            refine (HVal.out _).mono ?_
            rintro e w4 ⟨rfl, hb4⟩
            have H4 := Lib.hid (HO1.out.later hb4)
            clear hb4 c0
            go_wp2_with fail
            go_roundw
            case rel => exact ⟨j + 1, by go_num, by omega, H4⟩
            case measure => simp [intOf]; omega
          | true =>
            rw [hv] at HVal
            obtain ⟨x, hx, hr⟩ := HO1.out.recs j s b hjt hs hb hv
            have hname : nameO t (x : Int) = (s, true) := by
              obtain ⟨y, hy, hyn⟩ := hr.name
              unfold nameO
              rw [symO_nat, hy]
              simp [hyn]
            clear hv
            cases b with
            | true =>
              have hf := hr.yes rfl
              go_wp2_with fail
              refine (HVal.out _).mono ?_
              rintro e w4 ⟨rfl, hb4⟩
              have h4 := HO1.out.later hb4
              have c3 := Q0.out w4 h4.below
              have c4 := Q1.out w4 h4.below
              have c5 := (Row.of_owns h4.row).cell j (.int .i64 (x : Int)) (by rw [List.getElem?_map, hx]; rfl)
              have cn := name_any h4.tab (x : Int)
              rw [hname] at cn
              have cf := find_any h4.tab s (by unfold maxLen; omega)
              rw [hf] at cf
              simp only [Option.getD_some, Option.isSome_some] at cf
              have H4 := Lib.hid h4
              have CN := Lib.hid cn
              have CF := Lib.hid cf
              clear h4 cn cf hb4 c0 HO1 hr hx hname hf
              go_wp2_with fail
              refine CN.out.mono ?_
              rintro e w5 ⟨rfl, rfl⟩
              go_wp2_with fail
              refine CF.out.mono ?_
              rintro e w5 ⟨rfl, rfl⟩
              go_wp2_with fail
              go_roundw
              case rel => exact ⟨j + 1, by go_num, by omega, H4⟩
              case measure => simp [intOf]; omega
            | false =>
              have hno := hr.no rfl
              cases hf : t.find s with
              | none =>
                go_wp2_with fail
                refine (HVal.out _).mono ?_
                rintro e w4 ⟨rfl, hb4⟩
                have h4 := HO1.out.later hb4
                have c3 := Q0.out w4 h4.below
                have c4 := Q1.out w4 h4.below
                have c5 := (Row.of_owns h4.row).cell j (.int .i64 (x : Int)) (by rw [List.getElem?_map, hx]; rfl)
                have cn := name_any h4.tab (x : Int)
                rw [hname] at cn
                have cf := find_any h4.tab s (by unfold maxLen; omega)
                rw [hf] at cf
                simp only [Option.getD_none, Option.isSome_none] at cf
                have H4 := Lib.hid h4
                have CN := Lib.hid cn
                have CF := Lib.hid cf
                clear h4 cn cf hb4 c0 HO1 hr hx hname hf hno
                go_wp2_with fail
                refine CN.out.mono ?_
                rintro e w5 ⟨rfl, rfl⟩
                go_wp2_with fail
                refine CF.out.mono ?_
                rintro e w5 ⟨rfl, rfl⟩
                go_wp2_with fail
                go_roundw
                case rel => exact ⟨j + 1, by go_num, by omega, H4⟩
                case measure => simp [intOf]; omega
              | some m =>
                have hmx : ((m : Int) == (x : Int)) = false := beq_eq_false_iff_ne.2 (fun e => hno (by rw [hf]; congr 1; omega))
                have hmx2 : (m == x) = false := beq_eq_false_iff_ne.2 (fun e => hno (by rw [hf, e]))
                go_wp2_with fail
                refine (HVal.out _).mono ?_
                rintro e w4 ⟨rfl, hb4⟩
                have h4 := HO1.out.later hb4
                have c3 := Q0.out w4 h4.below
                have c4 := Q1.out w4 h4.below
                have c5 := (Row.of_owns h4.row).cell j (.int .i64 (x : Int)) (by rw [List.getElem?_map, hx]; rfl)
                have cn := name_any h4.tab (x : Int)
                rw [hname] at cn
                have cf := find_any h4.tab s (by unfold maxLen; omega)
                rw [hf] at cf
                simp only [Option.getD_some, Option.isSome_some] at cf
                have H4 := Lib.hid h4
                have CN := Lib.hid cn
                have CF := Lib.hid cf
                clear h4 cn cf hb4 c0 HO1 hr hx hname hf hno
                go_wp2_with fail
                refine CN.out.mono ?_
                rintro e w5 ⟨rfl, rfl⟩
                go_wp2_with fail
                refine CF.out.mono ?_
                rintro e w5 ⟨rfl, rfl⟩
                go_wp2_with fail
                go_roundw
                case rel => exact ⟨j + 1, by go_num, by omega, H4⟩
                case measure => simp [intOf]; omega
        · obtain rfl : j = k := by omega
          have hjz : ¬ (j : Int) < j := by omega
          have HM := Lib.hid (many_any HO1.out.tab)
          have HF := Lib.hid (HB1.out.trans (HO1.out.below.mono HB1.out.size))
          clear HO1
          go_wp2_with fail
          refine HM.out.mono ?_
          rintro e w6 ⟨rfl, rfl⟩
          go_wp2_with fail
          go_ret
          exact ⟨rfl, HF.out⟩
theorem once_walk (v0 : Value) (l0 : List ByteArray) (v1 : Value) (l1 : List Bool) (w : World) (h0 : SlR w v0 l0.length (l0.map Value.string)) (b0 : l0.length ≤ 9223372036854775807) (s0 : ∀ s ∈ l0, s.size ≤ maxLen) (h1 : SlR w v1 l1.length (l1.map Value.bool)) (b1 : l1.length ≤ 9223372036854775807) (hT : Tabs w) :
    Calls Tryd.prog 10 #[v0, v1] w fun e w' => e = .returned (.bool true) ∧ Below w.heap.size w w' := by
  obtain ⟨A0, c0, rfl, k0, r0⟩ := h0
  obtain ⟨A1, c1, rfl, k1, r1⟩ := h1
  have h0 : SlR w (.slice A0 l0.length c0) l0.length (l0.map Value.string) := ⟨_, _, rfl, k0, r0⟩
  by_cases hl : (shortL l0 300 && decide (l0.length ≤ 60)) = false ∨ l1.length < l0.length
  · exact once_light A0 A1 _ c0 _ c1 l0 w h0 rfl b0 b1 s0 hT hl
  · have hlt : (shortL l0 300 && decide (l0.length ≤ 60)) = true := by
      cases hh : (shortL l0 300 && decide (l0.length ≤ 60))
      · exact absurd (.inl hh) hl
      · rfl
    have h2 := hlt
    rw [Bool.and_eq_true, decide_eq_true_eq] at h2
    exact once_core A0 A1 _ c0 _ c1 l0 l1 w h0 rfl ⟨_, _, rfl, k1, r1⟩ rfl h2.2 (by omega) b1 (fun s hs => by simpa using List.all_eq_true.1 h2.1 s hs) hlt hT
end Go.Proofs.YtcdlfgggmigcnaaDoor.Nt
