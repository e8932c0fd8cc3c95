/- The contracts of put, SetProp, Prop and Props, where a new key comes behind the others. -/
import Derived.Test.YtcdlfgggmigcnaaDoorNtPut
import Derived.Deep.RegionHeld3
namespace Go.Proofs.YtcdlfgggmigcnaaDoor.Nt
set_option maxRecDepth 100000
open Go.RowKit
open Go.Proofs.YtcdlfgggmigcnaaDoor.Own Go.Proofs.YtcdlfgggmigcnaaDoor.Clone

theorem three_new (w : World) (x y z : Value) (t : TypeId) : ∀ j u, [x, y, z][j]? = some u → (w.alloc (.cells #[x, y, z] t)).cell? ((⟨w.heap.size, 0, none⟩ : Addr).add j) = some u := by
  intro j u hj
  have h := Blk.new w #[x, y, z] t
  rcases j with _ | _ | _ | j
  · simp at hj; subst hj; exact h.cell 0 _ rfl
  · simp at hj; subst hj; exact h.cell 1 _ rfl
  · simp at hj; subst hj; exact h.cell 2 _ rfl
  · simp at hj
theorem three_one (a b c : Int) : ∀ u ∈ [Value.int .i64 a, .int .i64 b, .int .i64 c], u.oneCell' = true := by
  intro u hu
  simp at hu
  rcases hu with rfl | rfl | rfl <;> rfl
theorem asc_snoc {l : List (Int × Wd)} {key : Int} {x : Wd} (h : Asc l) (hp : placeN l key = l.length) : Asc (l ++ [(key, x)]) := by
  unfold Asc
  rw [List.pairwise_append]
  refine ⟨h, List.pairwise_singleton _ _, fun p hp2 q hq => ?_⟩
  simp at hq
  subst hq
  have : ∀ q ∈ l, decide (q.1 < key) = true := by
    have h1 := List.countP_eq_length.1 hp
    exact h1
  simpa using this p hp2
theorem hasKey_end {l : List (Int × Wd)} {key : Int} (hp : placeN l key = l.length) : hasKey l key = false := by
  unfold hasKey
  rw [hp, List.getElem?_eq_none (Nat.le_refl _)]

set_option maxHeartbeats 4000000 in
theorem put_end {w : World} {base tp g cap k : Nat} {t : Tb} {lab : Nat → Option TLab} {P : TParts} {s : Sy} (h : TabIs w base tp t lab P) (hb : base ≤ w.heap.size) (hv : P.sv = .slice (some ⟨g, 0, none⟩) t.syms.length cap) (hs : t.syms[k]? = some s) (key : Int) (x : Wd) (hp : placeN s.props key = s.props.length) (hlen : s.props.length < 16384) :
    Calls Tryd.prog 103 #[.pointer (some ⟨g, k * 5 + 1, none⟩), .int .i64 key, wdv x] w fun e w' => e = .returned (.tuple #[]) ∧ TabOk w w' base tp ⟨t.syms.set k ⟨s.name, s.fn, s.has, s.props ++ [(key, x)]⟩, t.find⟩ lab := by
  obtain ⟨A, c, hps⟩ : ∃ A c, P.ps k = .slice A s.props.length c := by
    rcases (h.props k s hs).2 with ⟨hv2, h0⟩ | ⟨g', cap', cur, hv2, _⟩
    · exact ⟨none, 0, by rw [hv2, h0]⟩
    · exact ⟨_, _, hv2⟩
  have hown := h.props k s hs
  rw [hps] at hown
  have hgl : lab g = some .syms := h.slab g (by rw [hv]; rfl)
  have hne : (Value.slice A s.props.length c).ownBlock ≠ some g := fun e => by
    have := h.plab k g (by rw [hps]; exact e)
    rw [hgl] at this
    cases this
  have hrow := h.syms
  rw [hv] at hrow
  have hr := Row.of_owns hrow
  have hcell : w.cell? ⟨g, k * 5 + 1 + 3, none⟩ = some (.slice A s.props.length c) := by rw [← hps]; exact (sy_cells hr k s hs).2.2.2.2
  have hbx := boxN_below w x
  have hB := Blk.new w #[.int .i64 x.1, .int .i64 x.2] 28
  have hpl := place_any g (k * 5 + 1) _ s.props key _ (more hcell (wboxN x)) (PrR.of_own (owns_below hown hbx)) (h.sorted k s hs) (by omega)
  rw [hp, hasKey_end hp] at hpl
  have HP := Lib.hid hpl
  have HB := Lib.hid hbx
  have HBk := Lib.hid hB
  obtain ⟨n, hn⟩ : ∃ n, s.props.length = n := ⟨_, rfl⟩
  rw [hn] at hown hne hcell hlen HP
  have HOw := Lib.hid hown
  have HNe := Lib.hid hne
  have HCell := Lib.hid hcell
  have HFr := Lib.hid (hr.free (k * 5 + 1 + 3))
  have HFin := Lib.hid (show ∀ w3 w2 A' c', Below w.heap.size w w2 → Appended (w2.alloc (.cells #[.int .i64 key, .int .i64 x.1, .int .i64 x.2] 98)) w3 base 98 3 (.slice A n c) (.slice A' (n + 1) c') (n + 1) (pcells s.props ++ [.int .i64 key, .int .i64 x.1, .int .i64 x.2]) →
      TabOk w (w3.setCell ⟨g, k * 5 + 1 + 3, none⟩ (.slice A' (n + 1) c')) base tp ⟨t.syms.set k ⟨s.name, s.fn, s.has, s.props ++ [(key, x)]⟩, t.find⟩ lab from fun w3 w2 A' c' hb2 hap => by
    have hk2 : Keeps (fun b => (Value.slice A n c).ownBlock = some b) w w3 := (Keeps.of_below hb2).trans (keeps_pushN (w := w2) (o := .cells #[.int .i64 key, .int .i64 x.1, .int .i64 x.2] 98) hap.grown rfl rfl rfl rfl)
    have hpl : ∀ b, (Value.slice A' (n + 1) c').ownBlock = some b → (Value.slice A n c).ownBlock = some b ∨ w.heap.size ≤ b := fun b e => by
      rcases hap.place b e with h1 | h1
      · exact .inl h1
      · exact .inr (by subst h1; have := hb2.size; simp; omega)
    have hne2 : (Value.slice A' (n + 1) c').ownBlock ≠ some g := fun e => by
      rcases hpl g e with h1 | h1
      · exact hne h1
      · have := (h.inb g _ hgl).2; omega
    have hk3 : Keeps (fun b => b = g ∨ (Value.slice A n c).ownBlock = some b) w (w3.setCell ⟨g, k * 5 + 1 + 3, none⟩ (.slice A' (n + 1) c')) := (hk2.mono fun b _ e => .inr e).setCell ⟨g, k * 5 + 1 + 3, none⟩ _ fun _ => .inl rfl
    refine h.turned (v' := .slice A' (n + 1) c') (pr' := s.props ++ [(key, x)]) hb hs hk3 (fun b e => ?_) ?_ ?_ (fun b e => ?_) (asc_snoc (h.sorted k s hs) hp) (by rw [List.length_append, hn]; simp; omega)
    · rcases e with e | e
      · subst e; exact .inl hgl
      · exact .inr (h.plab k b (by rw [hps, hn]; exact e))
    · have h1 := owns_set (owns_keeps hrow hk2 (fun b e e2 => by simp only [Value.ownBlock, Option.some.injEq] at e; subst e; exact hne e2)) (k * 5 + 4) (.slice A' (n + 1) c')
      have h2 := scells_ps t.syms P.ps (updP P.ps k (.slice A' (n + 1) c')) k s (s.props ++ [(key, x)]) hs (fun i hi => by unfold updP; rw [if_neg hi])
      rw [show updP P.ps k (.slice A' (n + 1) c') k = .slice A' (n + 1) c' by unfold updP; rw [if_pos rfl]] at h2
      rw [h2] at h1
      rw [hv]
      exact h1
    · have h1 := owns_keeps hap.row ((Keeps.refl (fun b => b = g) w3).setCell ⟨g, k * 5 + 1 + 3, none⟩ (.slice A' (n + 1) c') fun _ => rfl) (fun b e e2 => hne2 (by rw [← e2]; exact e))
      rw [pcells_append, List.length_append, hn]
      exact h1
    · rcases hpl b e with h1 | h1
      · exact .inl (by rw [hps, hn]; exact h1)
      · exact .inr h1)
  have HBs := Lib.hid hb
  clear h hb hv hs hp hps hown hgl hne hrow hr hcell hbx hB hpl hn
  go_enter Tryd.func103, Tryd.ntmps103
  go_wp2_with fail
  refine HP.out.mono ?_
  rintro e w2 ⟨rfl, hb2⟩
  have hbw := HB.out.trans (hb2.mono HB.out.size)
  have hc2 := (hbw.cell (World.block_lt_of_cell? _ _ HCell.out)).trans HCell.out
  have hc3 := more hc2
  obtain ⟨b0, b1, _, _⟩ := (HBk.out.below hb2).two
  have b2 := more b0
  have b3 := more b1
  have hf2 := (hbw.frozen (World.block_lt_of_cell? _ _ HCell.out)).trans HFr.out
  have HB2 := Lib.hid hbw
  have HC2 := Lib.hid hc2
  have HF2 := Lib.hid hf2
  have HOw2 := Lib.hid (owns_below HOw.out hbw)
  clear hb2 hbw hf2
  go_wp2_with fail
  have HCd := Lib.hid (show w2.drew.cell? ⟨g, k * 5 + 1 + 3, none⟩ = some (.slice A n c) from HC2.out)
  have HIn := Lib.hid (show Calls Tryd.prog 121 #[.slice A n c, .int .i64 (n : Int), .slice (some ⟨w2.heap.size, 0, none⟩) 1 1] (w2.alloc (.cells #[.int .i64 key, .int .i64 x.1, .int .i64 x.2] 98)).drew _ from insert_end base n c w2.heap.size A (pcells s.props) [.int .i64 key, .int .i64 x.1, .int .i64 x.2] (w2.drew.alloc (.cells #[.int .i64 key, .int .i64 x.1, .int .i64 x.2] 98)) ((show w2.drew.ownsRow base _ 3 _ _ _ from HOw2.out).alloc _) (by have := HB2.out.size; have := HBs.out; simp; omega) hlen rfl (three_new w2.drew _ _ _ _) (three_one _ _ _))
  go_region_law ((go_simp; go_at_call 121; refine HIn.out.mono ?_; rintro e w3 ⟨A', c', rfl, hap⟩; have c5 := hap.grown.cell (more HCd.out (.cells #[.int .i64 key, .int .i64 x.1, .int .i64 x.2] 98)) (fun e => HNe.out e.symm); have f5 := grown_free hap.grown (more HCd.out (.cells #[.int .i64 key, .int .i64 x.1, .int .i64 x.2] 98)) (fun e => HNe.out e.symm) ((((Below.refl w2.drew.heap.size w2.drew).alloc (Nat.le_refl _) (.cells #[.int .i64 key, .int .i64 x.1, .int .i64 x.2] 98)).frozen (World.block_lt_of_cell? _ _ HCd.out)).trans HF2.out); have HA := Lib.hid (HFin.out w3 w2.drew A' c' HB2.out.drew hap); clear hap))
  all_goals (
    go_wp2_with fail
    go_end0
    exact ⟨rfl, HA.out⟩)

theorem pcells_set (l : List (Int × Wd)) (i : Nat) (key : Int) (y x : Wd) (h : l[i]? = some (key, y)) : ((pcells l).set (i * 3 + 1) (.int .i64 x.1)).set (i * 3 + 2) (.int .i64 x.2) = pcells (l.set i (key, x)) := by
  induction l generalizing i with
  | nil => simp at h
  | cons p l ih =>
    cases i with
    | zero =>
      simp at h
      subst h
      rfl
    | succ i =>
      simp at h
      simp only [pcells, List.set_cons_succ, show (i + 1) * 3 + 1 = i * 3 + 1 + 1 + 1 + 1 by omega, show (i + 1) * 3 + 2 = i * 3 + 2 + 1 + 1 + 1 by omega]
      rw [ih i h]
theorem asc_set {l : List (Int × Wd)} {i : Nat} {key : Int} {y x : Wd} (h : Asc l) (hi : l[i]? = some (key, y)) : Asc (l.set i (key, x)) := by
  unfold Asc at h ⊢
  have e : (l.set i (key, x)).map Prod.fst = l.map Prod.fst := by
    rw [List.map_set]
    refine List.ext_getElem? fun j => ?_
    by_cases hj : i = j
    · subst hj
      have hlt : i < l.length := (List.getElem?_eq_some_iff.1 hi).1
      rw [List.getElem?_set_self (by simpa using hlt), List.getElem?_map, hi]
      rfl
    · rw [List.getElem?_set_ne hj]
  have h1 : (l.map Prod.fst).Pairwise (· < ·) := List.pairwise_map.2 h
  rw [← e] at h1
  exact List.pairwise_map.1 h1
theorem scells_same (l : List Sy) (ps : Nat → Value) (k : Nat) (s : Sy) (pr : List (Int × Wd)) (h : l[k]? = some s) : scells (l.set k ⟨s.name, s.fn, s.has, pr⟩) ps 0 = scells l ps 0 := by
  rw [scells_put l ps ps k s _ h (fun _ _ => rfl), scells_split l ps 0 k s h, Nat.zero_add]
  rfl

set_option maxHeartbeats 4000000 in
theorem put_same {w : World} {base tp g cap k : Nat} {t : Tb} {lab : Nat → Option TLab} {P : TParts} {s : Sy} (h : TabIs w base tp t lab P) (hb : base ≤ w.heap.size) (hv : P.sv = .slice (some ⟨g, 0, none⟩) t.syms.length cap) (hs : t.syms[k]? = some s) (key : Int) (x y : Wd) (hp : s.props[placeN s.props key]? = some (key, y)) :
    Calls Tryd.prog 103 #[.pointer (some ⟨g, k * 5 + 1, none⟩), .int .i64 key, wdv x] w fun e w' => e = .returned (.tuple #[]) ∧ TabOk w w' base tp ⟨t.syms.set k ⟨s.name, s.fn, s.has, s.props.set (placeN s.props key) (key, x)⟩, t.find⟩ lab := by
  have hlt := (List.getElem?_eq_some_iff.1 hp).1
  have hown := h.props k s hs
  obtain ⟨gp, c, hps⟩ : ∃ gp c, P.ps k = .slice (some ⟨gp, 0, none⟩) s.props.length c := by
    rcases hown.2 with ⟨hv2, h0⟩ | ⟨g', cap', cur, hv2, _⟩
    · omega
    · exact ⟨_, _, hv2⟩
  rw [hps] at hown
  have hgl : lab g = some .syms := h.slab g (by rw [hv]; rfl)
  have hgp : lab gp = some (.props k) := h.plab k gp (by rw [hps]; rfl)
  have hrow := h.syms
  rw [hv] at hrow
  have hr := Row.of_owns hrow
  have hpr := Row.of_owns hown
  have hcell : w.cell? ⟨g, k * 5 + 1 + 3, none⟩ = some (.slice (some ⟨gp, 0, none⟩) s.props.length c) := by rw [← hps]; exact (sy_cells hr k s hs).2.2.2.2
  have hbx := boxN_below w x
  have hB := Blk.new w #[.int .i64 x.1, .int .i64 x.2] 28
  have hpl := place_any g (k * 5 + 1) _ s.props key _ (more hcell (wboxN x)) (PrR.of_own (owns_below hown hbx)) (h.sorted k s hs) (h.pmany k s hs)
  have hk1 : hasKey s.props key = true := by unfold hasKey; rw [hp]; simp
  rw [hk1] at hpl
  obtain ⟨i, hi⟩ : ∃ i, placeN s.props key = i := ⟨_, rfl⟩
  rw [hi] at hpl hp hlt ⊢
  obtain ⟨d1, d2, d3⟩ := pcells_at s.props i _ hp
  have hFin : ∀ w2, Below w.heap.size w w2 → TabOk w ((w2.setCell ⟨gp, i * 3 + 1, none⟩ (.int .i64 x.1)).setCell ⟨gp, i * 3 + 2, none⟩ (.int .i64 x.2)) base tp ⟨t.syms.set k ⟨s.name, s.fn, s.has, s.props.set i (key, x)⟩, t.find⟩ lab := fun w2 hb2 => by
    have hk3 : Keeps (fun b => b = gp) w ((w2.setCell ⟨gp, i * 3 + 1, none⟩ (.int .i64 x.1)).setCell ⟨gp, i * 3 + 2, none⟩ (.int .i64 x.2)) := ((Keeps.of_below (F := fun b => b = gp) hb2).setCell ⟨gp, i * 3 + 1, none⟩ _ fun _ => rfl).setCell ⟨gp, i * 3 + 2, none⟩ _ fun _ => rfl
    refine h.turned (v' := P.ps k) (pr' := s.props.set i (key, x)) hb hs hk3 (fun b e => .inr (by rw [e]; exact hgp)) ?_ ?_ (fun b e => .inl e) (asc_set (h.sorted k s hs) hp) (by rw [List.length_set]; exact h.pmany k s hs)
    · have e : updP P.ps k (P.ps k) = P.ps := by funext j; unfold updP; split <;> simp_all
      rw [e, scells_same t.syms P.ps k s _ hs, hv]
      exact owns_keeps hrow hk3 (fun b hb2 e2 => by simp only [Value.ownBlock, Option.some.injEq] at hb2; subst hb2; subst e2; rw [hgl] at hgp; cases hgp)
    · have h1 := owns_set (owns_set (owns_below hown hb2) (i * 3 + 1) (.int .i64 x.1)) (i * 3 + 2) (.int .i64 x.2)
      rw [pcells_set s.props i key y x hp] at h1
      rw [hps, List.length_set]
      exact h1
  have HFin := Lib.hid hFin
  obtain ⟨n, hn⟩ : ∃ n, s.props.length = n := ⟨_, rfl⟩
  have hn2 : n ≤ 16384 := by rw [← hn]; exact h.pmany k s hs
  rw [hn] at hlt hcell
  have HP := Lib.hid hpl
  have HB := Lib.hid hbx
  have HBk := Lib.hid hB
  have HCell := Lib.hid hcell
  have HPr := Lib.hid hpr
  have HD := Lib.hid (And.intro d1 (And.intro d2 d3))
  have hiz : (i : Int) < (n : Int) := by omega
  clear h hb hv hs hp hps hown hgl hgp hrow hr hpr hcell hbx hB hpl hk1 hFin d1 d2 d3 hn hi
  go_enter Tryd.func103, Tryd.ntmps103
  go_wp2_with fail
  refine HP.out.mono ?_
  rintro e w2 ⟨rfl, hb2⟩
  have hbw := HB.out.trans (hb2.mono HB.out.size)
  have c2 := (hbw.cell (World.block_lt_of_cell? _ _ HCell.out)).trans HCell.out
  obtain ⟨b0, b1, _, _⟩ := (HBk.out.below hb2).two
  have r0 := (HPr.out.below hbw).cell _ _ HD.out.1
  have r1 := (HPr.out.below hbw).cell _ _ HD.out.2.1
  have r2 := (HPr.out.below hbw).cell _ _ HD.out.2.2
  have f1 := (HPr.out.below hbw).free
  have r2' : w2.cell? ⟨gp, i * 3 + 1 + 1, none⟩ = some (.int .i64 y.2) := r2
  have f2 : w2.frozen? ⟨gp, i * 3 + 1 + 1, none⟩ = false := f1 (i * 3 + 2)
  have HF := Lib.hid (HFin.out w2.drew hbw.drew)
  clear hb2 hbw HP HB HBk HCell HPr HD HFin
  go_wp2_with fail
  go_region
  all_goals (
    go_wp2_with fail
    refine bodyPost_ret (results_none rfl _ _ _) rfl ?_
    exact ⟨rfl, HF.out⟩)
end Go.Proofs.YtcdlfgggmigcnaaDoor.Nt
