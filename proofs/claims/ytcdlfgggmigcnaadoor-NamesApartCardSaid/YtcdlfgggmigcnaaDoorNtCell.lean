/- The contracts of define, SetFunc, ClearFunc and Func. -/
import Derived.Test.YtcdlfgggmigcnaaDoorNtQuick
namespace Go.Proofs.YtcdlfgggmigcnaaDoor.Nt
set_option maxRecDepth 100000
open Go.RowKit
open Go.Proofs.YtcdlfgggmigcnaaDoor.Own

theorem scells_split (l : List Sy) (ps : Nat → Value) (j k : Nat) (s : Sy) (h : l[k]? = some s) :
    scells l ps j = scells (l.take k) ps j ++ (syCells s (ps (j + k)) ++ scells (l.drop (k + 1)) ps (j + k + 1)) := by
  induction l generalizing j k with
  | nil => simp at h
  | cons x l ih =>
    cases k with
    | zero =>
      simp at h
      subst h
      simp [scells]
    | succ k =>
      simp at h
      simp only [List.take_succ_cons, List.drop_succ_cons, scells, List.append_assoc]
      rw [ih (j + 1) k h, show j + 1 + k = j + (k + 1) by omega]
theorem scells_put (l : List Sy) (ps qs : Nat → Value) (k : Nat) (s s' : Sy) (h : l[k]? = some s) (hq : ∀ i, i ≠ k → qs i = ps i) :
    scells (l.set k s') qs 0 = scells (l.take k) ps 0 ++ (syCells s' (qs k) ++ scells (l.drop (k + 1)) ps (k + 1)) := by
  have hk : k < l.length := (List.getElem?_eq_some_iff.1 h).1
  rw [scells_split (l.set k s') qs 0 k s' (by simp [hk])]
  have e1 : (l.set k s').take k = l.take k := by rw [List.take_set]; exact List.set_eq_of_length_le (by rw [List.length_take]; omega)
  have e2 : (l.set k s').drop (k + 1) = l.drop (k + 1) := by rw [List.drop_set]; simp
  rw [e1, e2, Nat.zero_add]
  congr 1
  · exact scells_congr _ _ _ _ fun i hi => hq _ (by rw [List.length_take] at hi; omega)
  · congr 1
    exact scells_congr _ _ _ _ fun i hi => hq _ (by omega)
theorem set_mid {a b c : List Value} {n i : Nat} {v : Value} (ha : a.length = n) (hi : i < b.length) : (a ++ (b ++ c)).set (n + i) v = a ++ (b.set i v ++ c) := by
  subst ha
  rw [List.set_append_right _ _ (by omega), Nat.add_sub_cancel_left, List.set_append_left _ _ hi]
/-- A function is laid in a symbol's cells. -/
theorem scells_fn (l : List Sy) (ps : Nat → Value) (k : Nat) (s : Sy) (h : l[k]? = some s) (a b : Int) (c : Bool) :
    (((scells l ps 0).set (k * 5 + 1) (.int .i64 a)).set (k * 5 + 2) (.int .i64 b)).set (k * 5 + 3) (.bool c) = scells (l.set k ⟨s.name, (a, b), c, s.props⟩) ps 0 := by
  have hk : k < l.length := (List.getElem?_eq_some_iff.1 h).1
  have hl : (scells (l.take k) ps 0).length = k * 5 := by rw [scells_length, List.length_take]; congr 1; omega
  rw [scells_split l ps 0 k s h, scells_put l ps ps k s _ h (fun _ _ => rfl), Nat.zero_add, set_mid hl (by simp [syCells]), set_mid hl (by simp [syCells]), set_mid hl (by simp [syCells])]
  rfl
/-- A slice of properties is laid in a symbol's cell. -/
theorem scells_ps (l : List Sy) (ps qs : Nat → Value) (k : Nat) (s : Sy) (pr : List (Int × Wd)) (h : l[k]? = some s) (hq : ∀ i, i ≠ k → qs i = ps i) :
    (scells l ps 0).set (k * 5 + 4) (qs k) = scells (l.set k ⟨s.name, s.fn, s.has, pr⟩) qs 0 := by
  have hk : k < l.length := (List.getElem?_eq_some_iff.1 h).1
  have hl : (scells (l.take k) ps 0).length = k * 5 := by rw [scells_length, List.length_take]; congr 1; omega
  rw [scells_split l ps 0 k s h, scells_put l ps qs k s _ h hq, Nat.zero_add, set_mid hl (by simp [syCells])]
  rfl

/-- A table behind a change of one symbol, its name kept. -/
theorem set_found {t : Tb} {k : Nat} {s s' : Sy} (h : ∀ u (n : Nat), t.find u = some n → ∃ y : Sy, t.syms[n]? = some y ∧ y.name = u) (hs : t.syms[k]? = some s) (hn : s'.name = s.name) :
    ∀ u (n : Nat), t.find u = some n → ∃ y : Sy, (t.syms.set k s')[n]? = some y ∧ y.name = u := by
  intro u n hu
  obtain ⟨y, hy, hyn⟩ := h u n hu
  by_cases e : n = k
  · subst e
    rw [hs] at hy
    cases hy
    exact ⟨s', by rw [List.getElem?_set_self (List.getElem?_eq_some_iff.1 hs).1], by rw [hn, hyn]⟩
  · exact ⟨y, by rw [List.getElem?_set_ne (fun h => e h.symm)]; exact hy, hyn⟩
theorem set_each {t : Tb} {k : Nat} {s' : Sy} {Q : Nat → Sy → Prop} (h : ∀ (i : Nat) (s : Sy), t.syms[i]? = some s → Q i s) (hq : Q k s') : ∀ (i : Nat) (s : Sy), (t.syms.set k s')[i]? = some s → Q i s := by
  intro i s hi
  by_cases e : i = k
  · subst e
    by_cases hk : i < t.syms.length
    · rw [List.getElem?_set_self hk] at hi
      cases hi
      exact hq
    · rw [List.getElem?_eq_none (by simp; omega)] at hi
      cases hi
  · rw [List.getElem?_set_ne (fun h => e h.symm)] at hi
    exact h i s hi

theorem TabIs.defined {w : World} {base tp g cap k : Nat} {t : Tb} {lab : Nat → Option TLab} {P : TParts} {s : Sy} (h : TabIs w base tp t lab P) (hv : P.sv = .slice (some ⟨g, 0, none⟩) t.syms.length cap) (hs : t.syms[k]? = some s) (a b : Int) (c : Bool) :
    TabOk w (((w.setCell ⟨g, k * 5 + 1, none⟩ (.int .i64 a)).setCell ⟨g, k * 5 + 2, none⟩ (.int .i64 b)).setCell ⟨g, k * 5 + 3, none⟩ (.bool c)) base tp ⟨t.syms.set k ⟨s.name, (a, b), c, s.props⟩, t.find⟩ lab := by
  have hg : lab g = some .syms := h.slab g (by rw [hv]; rfl)
  have hk : Keeps (fun b => b = g) w (((w.setCell ⟨g, k * 5 + 1, none⟩ (.int .i64 a)).setCell ⟨g, k * 5 + 2, none⟩ (.int .i64 b)).setCell ⟨g, k * 5 + 3, none⟩ (.bool c)) :=
    (((Keeps.refl (fun b => b = g) w).setCell ⟨g, k * 5 + 1, none⟩ _ fun _ => rfl).setCell ⟨g, k * 5 + 2, none⟩ _ fun _ => rfl).setCell ⟨g, k * 5 + 3, none⟩ _ fun _ => rfl
  have hF : ∀ b l, lab b = some l → l ≠ .syms → ¬ (b = g) := fun b l hl hne e => by
    subst e
    rw [hg] at hl
    cases hl
    exact hne rfl
  have hrow := h.syms
  rw [hv] at hrow
  have hrow' := owns_set (owns_set (owns_set hrow (k * 5 + 1) (.int .i64 a)) (k * 5 + 2) (.int .i64 b)) (k * 5 + 3) (.bool c)
  rw [scells_fn t.syms P.ps k s hs] at hrow'
  refine ⟨lab, P, ?_, ⟨hk.mono fun b _ e => ?_, fun b hb => .inl hb⟩⟩
  · exact { h with
      inb := fun b l hl => ⟨(h.inb b l hl).1, Nat.lt_of_lt_of_le (h.inb b l hl).2 hk.size⟩
      blk := h.blk.keeps hk (hF _ _ h.hdr (by simp))
      map := by
        have := h.map.keeps hk (hF _ _ h.mlab (by simp))
        simpa using this
      syms := by
        rw [hv, List.length_set]
        exact hrow'
      props := set_each (Q := fun i s => World.ownsRow _ base 98 3 (P.ps i) s.props.length (pcells s.props)) (fun i s hi => owns_keeps (h.props i s hi) hk fun b hb => hF _ _ (h.plab i b hb) (by simp)) (owns_keeps (h.props k s hs) hk fun b hb => hF _ _ (h.plab k b hb) (by simp))
      tail := fun i hi => h.tail i (by simpa using hi)
      many := by simpa using h.many
      pmany := set_each (Q := fun _ s => s.props.length ≤ 16384) h.pmany (h.pmany k s hs)
      small := set_each (Q := fun _ s => s.name.size ≤ 4611686018427387904) h.small (h.small k s hs)
      found := set_found h.found hs rfl
      sorted := set_each (Q := fun _ s => Asc s.props) h.sorted (h.sorted k s hs) }
  · subst e
    unfold TOf
    rw [hg]
    simp

/-- What define returns, and the table behind it. -/
def defineO (t : Tb) (i : Int) (w : Wd) (has : Bool) : Int × Tb :=
  match symO t i with
  | none => (8, t)
  | some s => if i = 0 ∨ i = 1 then (10, t) else (0, ⟨t.syms.set i.toNat ⟨s.name, w, has, s.props⟩, t.find⟩)

abbrev wboxN (x : Wd) : Obj := .cells #[.int .i64 x.1, .int .i64 x.2] 28
theorem boxN_below (w : World) (x : Wd) : Below w.heap.size w (w.alloc (wboxN x)) := (Below.refl _ _).alloc (Nat.le_refl _) _

theorem define_null (i : Int) (x : Wd) (has : Bool) (w : World) : Calls Tryd.prog 87 #[.pointer none, .int .i64 i, wdv x, .bool has] w fun e w' => e = .returned (.int .i64 1) ∧ Below w.heap.size w w' := by
  have HV := Lib.hid valid_null
  have HB := Lib.hid (boxN_below w x)
  go_enter Tryd.func87, Tryd.ntmps87
  go_wp2_with fail
  refine (HV.out _).mono ?_
  rintro e w' ⟨rfl, rfl⟩
  go_wp2_with fail
  go_ret
  exact ⟨rfl, HB.out⟩
set_option maxHeartbeats 1000000 in
theorem define_any {w : World} {base tp : Nat} {t : Tb} {lab : Nat → Option TLab} {P : TParts} (h : TabIs w base tp t lab P) (i : Int) (x : Wd) (has : Bool) :
    Calls Tryd.prog 87 #[tptr tp, .int .i64 i, wdv x, .bool has] w fun e w' => e = .returned (.int .i64 (defineO t i x has).1) ∧ TabOk w w' base tp (defineO t i x has).2 lab := by
  have hb := boxN_below w x
  have h1 := h.below hb
  have HV := Lib.hid h1.valid
  unfold defineO
  cases hs : symO t i with
  | none =>
    have HS := Lib.hid (h1.nosymbol i hs _ (Below.refl _ _))
    have HF := Lib.hid (show TabOk w (w.alloc (wboxN x)) base tp t lab from ⟨lab, P, h1, .below hb⟩)
    clear h h1 hs hb
    go_enter Tryd.func87, Tryd.ntmps87
    go_wp2_with fail
    refine HV.out.mono ?_
    rintro e w' ⟨rfl, rfl⟩
    go_wp2_with fail
    refine HS.out.mono ?_
    rintro e w' ⟨rfl, rfl⟩
    go_wp2_with fail
    go_ret
    exact ⟨rfl, HF.out⟩
  | some s =>
    obtain ⟨k, rfl, hk, hs2⟩ := symO_some hs
    obtain ⟨g, cap, hv, hg, hr, hS⟩ := h1.symbol k s hs2
    have HS := Lib.hid (hS _ (Below.refl _ _))
    simp only
    by_cases hc : (k : Int) = 0 ∨ (k : Int) = 1
    · rw [if_pos hc]
      have HF := Lib.hid (show TabOk w (w.alloc (wboxN x)) base tp t lab from ⟨lab, P, h1, .below hb⟩)
      clear h h1 hs hb hr hS hs2 hv
      rcases hc with hc | hc
      · obtain rfl : k = 0 := by omega
        clear hc
        go_enter Tryd.func87, Tryd.ntmps87
        go_wp2_with fail
        refine HV.out.mono ?_
        rintro e w' ⟨rfl, rfl⟩
        go_wp2_with fail
        refine HS.out.mono ?_
        rintro e w' ⟨rfl, rfl⟩
        go_wp2_with fail
        go_ret
        exact ⟨rfl, HF.out⟩
      · obtain rfl : k = 1 := by omega
        clear hc
        go_enter Tryd.func87, Tryd.ntmps87
        go_wp2_with fail
        refine HV.out.mono ?_
        rintro e w' ⟨rfl, rfl⟩
        go_wp2_with fail
        refine HS.out.mono ?_
        rintro e w' ⟨rfl, rfl⟩
        go_wp2_with fail
        go_ret
        exact ⟨rfl, HF.out⟩
    · rw [if_neg hc]
      have hz0 : ((k : Int) == 0) = false := beq_eq_false_iff_ne.2 (by omega)
      have hz1 : ((k : Int) == 1) = false := beq_eq_false_iff_ne.2 (by omega)
      have hz0' : (k == 0) = false := beq_eq_false_iff_ne.2 (by omega)
      have hz1' : (k == 1) = false := beq_eq_false_iff_ne.2 (by omega)
      obtain ⟨lab', P', hI, hA⟩ := h1.defined hv hs2 x.1 x.2 has
      have HF := Lib.hid (show TabOk w _ base tp ⟨t.syms.set k ⟨s.name, (x.1, x.2), has, s.props⟩, t.find⟩ lab from ⟨lab', P', hI, (TAfter.below hb).trans hA⟩)
      obtain ⟨c0, c1, c2, c3, c4⟩ := sy_cells hr k s hs2
      have f1 := hr.free
      clear h h1 hs hb hr hS hs2 hv hI hA hc
      go_enter Tryd.func87, Tryd.ntmps87
      go_wp2_with fail
      refine HV.out.mono ?_
      rintro e w' ⟨rfl, rfl⟩
      go_wp2_with fail
      refine HS.out.mono ?_
      rintro e w' ⟨rfl, rfl⟩
      go_wp2_with fail
      go_ret
      exact ⟨rfl, by simpa using HF.out⟩

theorem setFunc_null (i : Int) (x : Wd) (w : World) : Calls Tryd.prog 51 #[.pointer none, .int .i64 i, wdv x] w fun e w' => e = .returned (.int .i64 1) ∧ Below w.heap.size w w' := by
  have HD := Lib.hid (define_null i x true)
  have HB := Lib.hid (boxN_below w x)
  go_enter Tryd.func51, Tryd.ntmps51
  go_wp2_with fail
  refine (HD.out _).mono ?_
  rintro e w' ⟨rfl, hb⟩
  go_wp2_with fail
  go_ret
  exact ⟨rfl, HB.out.trans (hb.mono HB.out.size)⟩
theorem setFunc_any {w : World} {base tp : Nat} {t : Tb} {lab : Nat → Option TLab} {P : TParts} (h : TabIs w base tp t lab P) (i : Int) (x : Wd) :
    Calls Tryd.prog 51 #[tptr tp, .int .i64 i, wdv x] w fun e w' => e = .returned (.int .i64 (defineO t i x true).1) ∧ TabOk w w' base tp (defineO t i x true).2 lab := by
  have hb := boxN_below w x
  have HD := Lib.hid (define_any (h.below hb) i x true)
  have HB := Lib.hid hb
  generalize (defineO t i x true).1 = c at *
  generalize (defineO t i x true).2 = t' at *
  clear h hb
  go_enter Tryd.func51, Tryd.ntmps51
  go_wp2_with fail
  refine HD.out.mono ?_
  rintro e w' ⟨rfl, lab', P', hI, hA⟩
  go_wp2_with fail
  go_ret
  exact ⟨rfl, lab', P', hI, (TAfter.below HB.out).trans hA⟩
theorem clearFunc_any {w : World} {base tp : Nat} {t : Tb} {lab : Nat → Option TLab} {P : TParts} (h : TabIs w base tp t lab P) (i : Int) :
    Calls Tryd.prog 60 #[tptr tp, .int .i64 i] w fun e w' => e = .returned (.int .i64 (defineO t i (0, 0) false).1) ∧ TabOk w w' base tp (defineO t i (0, 0) false).2 lab := by
  have HD := Lib.hid (define_any h i (0, 0) false)
  generalize (defineO t i (0, 0) false).1 = c at *
  generalize (defineO t i (0, 0) false).2 = t' at *
  clear h
  go_enter Tryd.func60, Tryd.ntmps60
  go_wp2_with fail
  refine HD.out.mono ?_
  rintro e w' ⟨rfl, ho⟩
  go_wp2_with fail
  go_ret
  exact ⟨rfl, ho⟩

/-- What Func returns. -/
def funcO (t : Tb) (i : Int) : Wd × Bool := match symO t i with | some s => (s.fn, s.has) | none => ((0, 0), false)
set_option maxHeartbeats 1000000 in
theorem func_any {w : World} {base tp : Nat} {t : Tb} {lab : Nat → Option TLab} {P : TParts} (h : TabIs w base tp t lab P) (i : Int) :
    Calls Tryd.prog 62 #[tptr tp, .int .i64 i] w fun e w' => e = .returned (.tuple #[wdv (funcO t i).1, .bool (funcO t i).2]) ∧ Below w.heap.size w w' := by
  have hb := boxN_below w (0, 0)
  have h1 := h.below hb
  have hB := Blk.new w #[.int .i64 0, .int .i64 0] 28
  have HB := Lib.hid hb
  unfold funcO
  cases hs : symO t i with
  | none =>
    have HS := Lib.hid (h1.nosymbol i hs _ (Below.refl _ _))
    obtain ⟨b0, b1, e0, e1⟩ : _ ∧ _ ∧ _ ∧ _ := ⟨hB.cell 0 _ rfl, hB.cell 1 _ rfl, hB.free 0, hB.free 1⟩
    clear h h1 hs hb hB
    go_enter Tryd.func62, Tryd.ntmps62
    go_wp2_with fail
    refine HS.out.mono ?_
    rintro e w' ⟨rfl, rfl⟩
    go_wp2_with fail
    refine bodyPost_ret (v := .tuple #[wdv (0, 0), .bool false]) (by simp [results, Tryd.results62, go_sem, b0, b1]) rfl ⟨rfl, ?_⟩
    exact HB.out
  | some s =>
    obtain ⟨k, rfl, hk, hs2⟩ := symO_some hs
    obtain ⟨g', cap', hv', hg', hr', _⟩ := h.symbol k s hs2
    obtain ⟨g, cap, hv, hg, hr, hS⟩ := h1.symbol k s hs2
    have hgg : g' = g := by rw [hv'] at hv; cases hv; rfl
    subst hgg
    have HS := Lib.hid (hS _ (Below.refl _ _))
    obtain ⟨c0', c1', c2', c3', c4'⟩ := sy_cells hr' k s hs2
    have c1 := more c1'
    have c2 := more c2'
    have c3 := more c3'
    have d2 : ∀ o, (w.alloc o).cell? ⟨g', k * 5 + 1 + 1, none⟩ = some (.int .i64 s.fn.2) := fun o => more c2' o
    have d3 : ∀ o, (w.alloc o).cell? ⟨g', k * 5 + 1 + 2, none⟩ = some (.bool s.has) := fun o => more c3' o
    clear hr' hv' hg' c0' c1' c2' c3' c4'
    obtain ⟨b0, b1, e0, e1⟩ : _ ∧ _ ∧ _ ∧ _ := ⟨hB.cell 0 _ rfl, hB.cell 1 _ rfl, hB.free 0, hB.free 1⟩
    have hne : g' ≠ w.heap.size := by
      have h0 := (h.inb g' _ hg).2
      omega
    clear h h1 hs hb hB hr hS hs2 hv hg
    go_enter Tryd.func62, Tryd.ntmps62
    go_wp2_with fail
    refine HS.out.mono ?_
    rintro e w' ⟨rfl, rfl⟩
    go_wp2_with fail
    go_region
    all_goals (
      go_wp2_with fail
      refine bodyPost_ret (v := .tuple #[wdv s.fn, .bool s.has]) (by simp [results, Tryd.results62, go_sem]) rfl ⟨rfl, ?_⟩
      exact ((Below.refl _ _).alloc (Nat.le_refl _) _).drew)
end Go.Proofs.YtcdlfgggmigcnaaDoor.Nt
