/- The contracts of Prop and Props; copyistkit.Same at properties. -/
import Derived.Test.YtcdlfgggmigcnaaDoorNtProps
import Derived.Laws.StructEq
namespace Go.Proofs.YtcdlfgggmigcnaaDoor.Nt
set_option maxRecDepth 100000
open Go.RowKit
open Go.Proofs.YtcdlfgggmigcnaaDoor.Own Go.Proofs.YtcdlfgggmigcnaaDoor.Clone

/-- What Prop returns. -/
def propO (t : Tb) (i key : Int) : Wd × Bool :=
  match symO t i with
  | some s => if hasKey s.props key = true then (((s.props[placeN s.props key]?).getD (0, (0, 0))).2, true) else ((0, 0), false)
  | none => ((0, 0), false)
set_option maxHeartbeats 2000000 in
theorem prop_any {w : World} {base tp : Nat} {t : Tb} {lab : Nat → Option TLab} {P : TParts} (h : TabIs w base tp t lab P) (i key : Int) :
    Calls Tryd.prog 63 #[tptr tp, .int .i64 i, .int .i64 key] w fun e w' => e = .returned (.tuple #[wdv (propO t i key).1, .bool (propO t i key).2]) ∧ Below w.heap.size w w' := by
  have hb := boxN_below w (0, 0)
  have h1 := h.below hb
  have hB := Blk.new w #[.int .i64 0, .int .i64 0] 28
  have HB := Lib.hid hb
  have HBk := Lib.hid hB
  unfold propO
  cases hs : symO t i with
  | none =>
    have HS := Lib.hid (h1.nosymbol i hs _ (Below.refl _ _))
    obtain ⟨b0, b1, e0, e1⟩ := hB.two
    clear h h1 hs hb hB
    go_enter Tryd.func63, Tryd.ntmps63
    go_wp2_with fail
    refine HS.out.mono ?_
    rintro e w' ⟨rfl, rfl⟩
    go_wp2_with fail
    refine bodyPost_ret (v := .tuple #[wdv (0, 0), .bool false]) (by simp [results, Tryd.results63, go_sem]) rfl ⟨rfl, HB.out⟩
  | some s =>
    obtain ⟨k, rfl, hk, hs2⟩ := symO_some hs
    obtain ⟨g, cap, hv, hg, hr, hS⟩ := h1.symbol k s hs2
    have HS := Lib.hid (hS _ (Below.refl _ _))
    have hown := h1.props k s hs2
    have hcell : (w.alloc (wboxN (0, 0))).cell? ⟨g, k * 5 + 1 + 3, none⟩ = some (P.ps k) := (sy_cells hr k s hs2).2.2.2.2
    have hpl := place_any g (k * 5 + 1) _ s.props key _ hcell (PrR.of_own hown) (h.sorted k s hs2) (h.pmany k s hs2)
    have HCell := Lib.hid hcell
    simp only
    by_cases hk1 : hasKey s.props key = true
    · obtain ⟨y, hy⟩ := hasKey_at hk1
      have hlt := (List.getElem?_eq_some_iff.1 hy).1
      obtain ⟨gp, c, hps⟩ : ∃ gp c, P.ps k = .slice (some ⟨gp, 0, none⟩) s.props.length c := by
        rcases hown.2 with ⟨hv2, h0⟩ | ⟨g', cap', cur, hv2, _⟩
        · omega
        · exact ⟨_, _, hv2⟩
      rw [hps] at hown HCell
      rw [if_pos hk1, hy]
      simp only [Option.getD_some]
      rw [hk1] at hpl
      obtain ⟨j, hj⟩ : ∃ j, placeN s.props key = j := ⟨_, rfl⟩
      rw [hj] at hpl hy hlt
      obtain ⟨d1, d2, d3⟩ := pcells_at s.props j _ hy
      have HPr := Lib.hid (Row.of_owns hown)
      have HD := Lib.hid (And.intro d2 d3)
      have HP := Lib.hid hpl
      obtain ⟨n, hn⟩ : ∃ n, s.props.length = n := ⟨_, rfl⟩
      rw [hn] at HCell hlt
      have hjz : (j : Int) < (n : Int) := by omega
      clear h h1 hs hb hB hr hS hs2 hv hg hown hcell hpl hk1 hy hps hj d1 d2 d3 hn
      go_enter Tryd.func63, Tryd.ntmps63
      go_wp2_with fail
      refine HS.out.mono ?_
      rintro e w' ⟨rfl, rfl⟩
      go_wp2_with fail
      refine HP.out.mono ?_
      rintro e w2 ⟨rfl, hb2⟩
      have c2 := (hb2.cell (World.block_lt_of_cell? _ _ HCell.out)).trans HCell.out
      obtain ⟨b0, b1, e0, e1⟩ := (HBk.out.below hb2).two
      have r1 := (HPr.out.below hb2).cell _ _ HD.out.1
      have r2 : w2.cell? ⟨gp, j * 3 + 1 + 1, none⟩ = some (.int .i64 y.2) := (HPr.out.below hb2).cell _ _ HD.out.2
      have HB2 := Lib.hid (HB.out.trans (hb2.mono HB.out.size))
      clear hb2
      go_wp2_with fail
      refine bodyPost_ret (v := .tuple #[wdv y, .bool true]) (by simp [results, Tryd.results63, go_sem, b0, b1]) rfl ⟨rfl, ?_⟩
      exact (HB2.out.setCell (by simp) _).setCell (by simp) _
    · have hk2 : hasKey s.props key = false := by simpa using hk1
      rw [if_neg hk1]
      rw [hk2] at hpl
      have HP := Lib.hid hpl
      clear h h1 hs hb hB hr hS hs2 hv hg hown hcell hpl hk1 hk2
      go_enter Tryd.func63, Tryd.ntmps63
      go_wp2_with fail
      refine HS.out.mono ?_
      rintro e w' ⟨rfl, rfl⟩
      go_wp2_with fail
      refine HP.out.mono ?_
      rintro e w2 ⟨rfl, hb2⟩
      obtain ⟨b0, b1, e0, e1⟩ := (HBk.out.below hb2).two
      have HB2 := Lib.hid (HB.out.trans (hb2.mono HB.out.size))
      clear hb2
      go_wp2_with fail
      refine bodyPost_ret (v := .tuple #[wdv (0, 0), .bool false]) (by simp [results, Tryd.results63, go_sem, b0, b1]) rfl ⟨rfl, ?_⟩
      exact (HB2.out.setCell (by simp) _).setCell (by simp) _

/-- What Props returns. -/
def propsO (t : Tb) (i : Int) : List (Int × Wd) := match symO t i with | some s => s.props | none => []
theorem slr_props {w : World} {v : Value} {base : Nat} {l : List (Int × Wd)} (h : w.ownsRow base 98 3 v l.length (pcells l)) : SlR w v l.length (pcells l) := SlR.of_own h
set_option maxHeartbeats 1000000 in
theorem props_any {w : World} {base tp : Nat} {t : Tb} {lab : Nat → Option TLab} {P : TParts} (h : TabIs w base tp t lab P) (i : Int) :
    Calls Tryd.prog 65 #[tptr tp, .int .i64 i] w fun e w' => (∃ v, e = .returned v ∧ w'.ownsRow w.heap.size 98 3 v (propsO t i).length (pcells (propsO t i))) ∧ Below w.heap.size w w' := by
  unfold propsO
  cases hs : symO t i with
  | none =>
    have HS := Lib.hid (h.nosymbol i hs _ (Below.refl _ _))
    clear h hs
    go_enter Tryd.func65, Tryd.ntmps65
    go_wp2_with fail
    refine HS.out.mono ?_
    rintro e w' ⟨rfl, rfl⟩
    go_wp2_with fail
    go_ret
    exact ⟨⟨_, rfl, ⟨rfl, .inl ⟨rfl, rfl⟩⟩⟩, Below.refl _ _⟩
  | some s =>
    obtain ⟨k, rfl, hk, hs2⟩ := symO_some hs
    obtain ⟨g, cap, hv, hg, hr, hS⟩ := h.symbol k s hs2
    have HS := Lib.hid (hS _ (Below.refl _ _))
    have hown := h.props k s hs2
    have hcell : w.cell? ⟨g, k * 5 + 1 + 3, none⟩ = some (P.ps k) := (sy_cells hr k s hs2).2.2.2.2
    have HC := Lib.hid (cloneP_any _ _ _ w (slr_props hown) (pcells_length _) (pcells_one _) (by have := h.pmany k s hs2; omega))
    obtain ⟨A, c, hps⟩ := slice_of' hown
    rw [hps] at hcell HC
    simp only
    clear h hs hs2 hv hg hr hS hown hps
    go_enter Tryd.func65, Tryd.ntmps65
    go_wp2_with fail
    refine HS.out.mono ?_
    rintro e w' ⟨rfl, rfl⟩
    go_wp2_with fail
    refine HC.out.mono ?_
    rintro e w2 ⟨⟨v, rfl, ho⟩, hb⟩
    have HO := Lib.hid ho
    clear ho
    go_wp2_with fail
    go_ret
    exact ⟨⟨v, rfl, HO.out⟩, hb⟩

set_option maxHeartbeats 2000000 in
theorem sameP_core (A1 A2 : Option Addr) (n c1 c2 : Nat) (l : List (Int × Wd)) (w : World) (HN : Hid (l.length = n)) (hn : n ≤ 65536)
    (R1' : Hid (0 < n → ∃ g off, A1 = some ⟨g, off, none⟩ ∧ ∀ j u, (pcells l)[j]? = some u → w.cell? ⟨g, off + j, none⟩ = some u))
    (R2' : Hid (0 < n → ∃ g off, A2 = some ⟨g, off, none⟩ ∧ ∀ j u, (pcells l)[j]? = some u → w.cell? ⟨g, off + j, none⟩ = some u)) :
    Calls Tryd.prog 64 #[.slice A1 n c1, .slice A2 n c2] w fun e w' => e = .returned (.bool true) ∧ ∃ q, w' = w.drewN q := by
  go_enter Tryd.func64, Tryd.ntmps64
  go_wp2
  go_loopw [5] (fun s wr => ∃ k : Nat, s = .int .i64 (k : Int) ∧ Hid (∃ q, wr = w.drewN q) ∧ k ≤ n) (fun s _ => n - (intOf s).toNat)
  case atStart => exact ⟨0, rfl, ⟨0, rfl⟩, Nat.zero_le _⟩
  case round =>
    obtain ⟨k, rfl, HQ, hk⟩ := hrel
    by_cases hlt : k < n
    · have hltz : (k : Int) < n := by omega
      obtain ⟨g1, o1, rfl, d1⟩ := R1'.out (by omega)
      obtain ⟨g2, o2, rfl, d2⟩ := R2'.out (by omega)
      obtain ⟨x, hx⟩ : ∃ x, l[k]? = some x := ⟨l[k]'(by rw [HN.out]; exact hlt), List.getElem?_eq_getElem _⟩
      obtain ⟨t1, t2, t3⟩ := pcells_at l k x hx
      have e1 : wr.cell? ⟨g1, o1 + k * 3, none⟩ = some (.int .i64 x.1) := by obtain ⟨q, hq⟩ := HQ.out; rw [hq]; exact d1 _ _ t1
      have e2 : wr.cell? ⟨g1, o1 + k * 3 + 1, none⟩ = some (.int .i64 x.2.1) := by obtain ⟨q, hq⟩ := HQ.out; rw [hq]; exact d1 _ _ t2
      have e3 : wr.cell? ⟨g1, o1 + k * 3 + 2, none⟩ = some (.int .i64 x.2.2) := by obtain ⟨q, hq⟩ := HQ.out; rw [hq]; exact d1 _ _ t3
      have e4 : wr.cell? ⟨g2, o2 + k * 3, none⟩ = some (.int .i64 x.1) := by obtain ⟨q, hq⟩ := HQ.out; rw [hq]; exact d2 _ _ t1
      have e5 : wr.cell? ⟨g2, o2 + k * 3 + 1, none⟩ = some (.int .i64 x.2.1) := by obtain ⟨q, hq⟩ := HQ.out; rw [hq]; exact d2 _ _ t2
      have e6 : wr.cell? ⟨g2, o2 + k * 3 + 2, none⟩ = some (.int .i64 x.2.2) := by obtain ⟨q, hq⟩ := HQ.out; rw [hq]; exact d2 _ _ t3
      clear t1 t2 t3 hx d1 d2
      go_wp2
      go_quiet (fail)
      go_wp2
      go_roundw
      case rel => exact ⟨k + 1, by go_num, by obtain ⟨q, hq⟩ := HQ.out; exact ⟨q + nq, by rw [hq, World.drewN_drewN]⟩, by omega⟩
      case measure => simp [intOf]; omega
    · have hltz : ¬ (k : Int) < n := by omega
      go_wp2
      go_ret
      exact ⟨rfl, HQ.out⟩
theorem sameP_eq (v1 v2 : Value) (l : List (Int × Wd)) (w : World) (h1 : SlR w v1 l.length (pcells l)) (h2 : SlR w v2 l.length (pcells l)) (hn : l.length ≤ 65536) :
    Calls Tryd.prog 64 #[v1, v2] w fun e w' => e = .returned (.bool true) ∧ Below w.heap.size w w' := by
  obtain ⟨A1, c1, rfl, _, r1⟩ := h1
  obtain ⟨A2, c2, rfl, _, r2⟩ := h2
  refine (sameP_core A1 A2 _ c1 c2 l w rfl hn r1 r2).mono ?_
  rintro e w' ⟨he, q, rfl⟩
  exact ⟨he, ⟨rfl, rfl, rfl, Nat.le_refl _, fun _ _ => rfl⟩⟩
end Go.Proofs.YtcdlfgggmigcnaaDoor.Nt
