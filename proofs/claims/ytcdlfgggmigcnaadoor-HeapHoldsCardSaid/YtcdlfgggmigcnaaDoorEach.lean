/- The contracts of each and contained with the marking closure. -/
import Derived.Test.YtcdlfgggmigcnaaDoorVisit
import Derived.Test.YtcdlfgggmigcnaaDoorClone
import Derived.LoopTactic
import Derived.Outline
namespace Go.Proofs.YtcdlfgggmigcnaaDoor.Visit
set_option maxRecDepth 100000
open Go.RowKit
open Go.Proofs.YtcdlfgggmigcnaaDoor.Own Go.Proofs.YtcdlfgggmigcnaaDoor.Hp Go.Proofs.YtcdlfgggmigcnaaDoor.Rep Go.Proofs.YtcdlfgggmigcnaaDoor.Base Go.Proofs.YtcdlfgggmigcnaaDoor.Get Go.Proofs.YtcdlfgggmigcnaaDoor.Nums Go.Proofs.YtcdlfgggmigcnaaDoor.Place Go.Proofs.YtcdlfgggmigcnaaDoor.Dfs Go.Proofs.YtcdlfgggmigcnaaDoor.Clone

/-- How much the marking may still do. -/
def Fuel (M : Nat) (s : S) : Prop := 2 * unm s.mark M + s.st.length ≤ 131072

theorem visit_any {w0 : World} {base hp lim bh gm bm bs : Nat} {ob : Obs} {lab : Nat → Option Lab} {P : Parts} (h : HeapIs w0 base hp lim ob lab P) (hB : Blocks w0.heap.size bh gm bm bs) (x : Wd) (s : S) (W : World) (hd : DS w0 hp bh gm bm bs P.m P.vals s W) (hf : Fuel P.m s) :
    Calls Tryd.prog 109 #[wd x, ptr bh, ptr bm, ptr bs] W fun e W' => e = .returned (.tuple #[]) ∧ DS w0 hp bh gm bm bs P.m P.vals (visitS ob s x) W' := by
  obtain ⟨v, hv, hvs, hr⟩ := find_any h x
  unfold visitS
  cases ho : findO ob x with
  | none =>
    rw [ho] at hv
    obtain rfl := hv
    exact visit_none hd x hr
  | some o =>
    rw [ho] at hv hvs
    obtain ⟨t, p, rfl⟩ := Add.some_iface hv
    obtain ⟨h0, h1, _⟩ := findO_some ho
    have hlt := h.has h1
    obtain ⟨k, n0⟩ := x
    obtain ⟨n, rfl⟩ := Int.eq_ofNat_of_zero_le h0
    simp only [Int.toNat_natCast] at hvs hlt ⊢
    have hvs := hvs (by simp)
    cases hm : s.mark n with
    | true => exact visit_marked hd k t p hr hlt hm
    | false => exact visit_new hd hB k t p hr hlt hm (by rw [List.getD_eq_getElem?_getD, hvs]; rfl) (by unfold Fuel at hf; omega)
theorem Fuel.each {ob : Obs} {M : Nat} (hM : ∀ i, M ≤ i → ob i = none) {s : S} (h : Fuel M s) (l : List Wd) : Fuel M (eachS ob s l) := Nat.le_trans (each_went ob M hM l s).less h

theorem wcells_at (l : List Wd) (k : Nat) (h : k < l.length) : (wcells l)[k * 2]? = some (.int .i64 (l[k]).1) ∧ (wcells l)[k * 2 + 1]? = some (.int .i64 (l[k]).2) := by
  induction l generalizing k with
  | nil => simp at h
  | cons x l ih =>
    cases k with
    | zero => simp [wcells]
    | succ k =>
      have := ih k (by simpa using h)
      rw [show (k + 1) * 2 = k * 2 + 1 + 1 from by omega]
      simpa [wcells] using this
theorem each_snoc (ob : Obs) (s : S) (l : List Wd) (k : Nat) (h : k < l.length) : eachS ob s (l.take (k + 1)) = visitS ob (eachS ob s (l.take k)) l[k] := by
  unfold eachS
  rw [List.take_succ_eq_append_getElem h, List.foldl_append]
  rfl

/-- The closure by value. -/
abbrev visitV (bh bm bs : Nat) : Value := .func (.func 109) #[] #[ptr bh, ptr bm, ptr bs]
set_option maxHeartbeats 8000000 in
theorem each_any {w0 : World} {base hp lim bh gm bm bs : Nat} {ob : Obs} {lab : Nat → Option Lab} {P : Parts} (h : HeapIs w0 base hp lim ob lab P) (hB : Blocks w0.heap.size bh gm bm bs) (v : Value) (l : List Wd) (hl : SlR w0 v l.length (wcells l)) (hm : l.length ≤ 4611686018427387904)
    (s : S) (W : World) (hd : DS w0 hp bh gm bm bs P.m P.vals s W) (hf : Fuel P.m s) :
    Calls Tryd.prog 110 #[v, visitV bh bm bs] W fun e W' => e = .returned (.tuple #[]) ∧ DS w0 hp bh gm bm bs P.m P.vals (eachS ob s l) W' := by
  obtain ⟨A, cap, rfl, hcap, hr⟩ := hl
  obtain ⟨n, hn⟩ : ∃ n, l.length = n := ⟨_, rfl⟩
  have HN := Lib.hid hn
  rw [hn] at hm ⊢
  have HR := Lib.hid hr
  have HH := Lib.hid h
  have HB := Lib.hid hB
  have HD := Lib.hid hd
  have HF := Lib.hid hf
  have HM := Lib.hid h.out
  clear h hB hd hf hr hn hcap
  go_enter Tryd.func110, Tryd.ntmps110
  go_wp2
  go_loopw [8] (fun i wr => ∃ k : Nat, i = .int .i64 (k : Int) ∧ k ≤ n ∧ Hid (DS w0 hp bh gm bm bs P.m P.vals (eachS ob s (l.take k)) wr)) (fun i _ => n - (intOf i).toNat)
  case atStart => exact ⟨0, rfl, Nat.zero_le _, HD.out⟩
  case round =>
    obtain ⟨k, rfl, hk, HD1⟩ := hrel
    by_cases hlt : k < n
    · have hltz : (k : Int) < n := by omega
      obtain ⟨g, off, rfl, hc⟩ := HR.out (by rw [HN.out]; omega)
      obtain ⟨e1, e2⟩ := wcells_at l k (by rw [HN.out]; exact hlt)
      have hb := HD1.out.below
      have c1 := (hb.cell (World.block_lt_of_cell? _ _ (hc _ _ e1))).trans (hc _ _ e1)
      have c2 := (hb.cell (World.block_lt_of_cell? _ _ (hc _ _ e2))).trans (hc _ _ e2)
      have c3 : wr.cell? ⟨g, off + k * 2 + 1, none⟩ = some (.int .i64 (l[k]'(by rw [HN.out]; exact hlt)).2) := c2
      obtain ⟨x, hx⟩ : ∃ x, l[k]'(by rw [HN.out]; exact hlt) = x := ⟨_, rfl⟩
      rw [hx] at c1 c2 c3
      have hV := visit_any HH.out HB.out x _ (wr.alloc (.cells #[.int .i64 x.1, .int .i64 x.2] 28)) (HD1.out.later ((Below.refl _ _).alloc (Nat.le_refl _) _)) (HF.out.each HM.out (l.take k))
      have hs := each_snoc ob s l k (by rw [HN.out]; exact hlt)
      rw [hx] at hs
      rw [← hs] at hV
      have HV := Lib.hid hV
      clear hV hs hx hc e1 e2 hb
      go_wp2_with fail
      refine HV.out.mono ?_
      rintro e w2 ⟨rfl, hd2⟩
      have HD2 := Lib.hid hd2
      clear hd2
      go_wp2_with fail
      go_roundw
      case rel => exact ⟨k + 1, by go_num, by omega, HD2⟩
      case measure => simp [intOf]; omega
    · have hltz : ¬ (k : Int) < n := by omega
      have hfin := HD1.out
      rw [List.take_of_length_le (by rw [HN.out]; omega)] at hfin
      have HFi := Lib.hid hfin
      clear hfin
      go_wp2_with fail
      go_end0
      exact ⟨rfl, HFi.out⟩
end Go.Proofs.YtcdlfgggmigcnaaDoor.Visit
