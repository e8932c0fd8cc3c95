/- The contract of (*Heap).add over a heap: it stores an object under the first free number, or reports that the heap is full. -/
import Derived.Test.YtcdlfgggmigcnaaDoorAdd
namespace Go.Proofs.YtcdlfgggmigcnaaDoor.Add
set_option maxRecDepth 100000
open Go.RowKit
open Go.Proofs.YtcdlfgggmigcnaaDoor.Own Go.Proofs.YtcdlfgggmigcnaaDoor.Hp Go.Proofs.YtcdlfgggmigcnaaDoor.HeapOrd Go.Proofs.YtcdlfgggmigcnaaDoor.Rep Go.Proofs.YtcdlfgggmigcnaaDoor.Base Go.Proofs.YtcdlfgggmigcnaaDoor.Get Go.Proofs.YtcdlfgggmigcnaaDoor.Meth Go.Proofs.YtcdlfgggmigcnaaDoor.Quick Go.Proofs.YtcdlfgggmigcnaaDoor.Size Go.Proofs.YtcdlfgggmigcnaaDoor.Nums Go.Proofs.YtcdlfgggmigcnaaDoor.Place

/-- What add returns: a word, an error number, the objects behind it. -/
def addO (ob : Obs) (lim : Nat) (o : Ob) : Wd × Int × Obs :=
  if freeTo ob lim < lim ∧ usedTo ob lim + o.size ≤ 1048576 then ((o.kind, (freeTo ob lim : Int)), 0, put ob (freeTo ob lim) (some o)) else ((0, 0), 7, ob)

theorem small_size {o : Ob} (h : Small (some o)) : o.size ≤ 131072 := by
  cases o with
  | cons a d => simp [Ob.size]
  | text s k => have h : k ≤ 65536 := h; simp only [Ob.size]; omega
  | vec l => have h : l.length ≤ 65536 := h; simp only [Ob.size]; omega
  | code p q z b l => have h1 := h.1; have h2 := h.2; simp only [Ob.size]; omega

theorem draws_cons {w : World} (g : Nat) : Draws w 160 #[ptr g] (.int .i64 ((0 : Nat) : Int)) := draws_same fun w _ => size_cons _ w
theorem draws_text {w : World} {g k : Nat} {s : ByteArray} (h : Blk w g #[.string s, .int .i64 (k : Int)] 114) : Draws w 161 #[ptr g] (.int .i64 (k : Int)) :=
  draws_same fun w' hb => size_text g k w' ((h.below hb).cell 1 _ rfl)
theorem slat_slice {w : World} {lab : Nat → Option Lab} {k : Lab} {v : Value} {n : Nat} {xs : List Value} (h : SlAt w lab k v n xs) : ∃ A c, v = .slice A n c := by
  obtain ⟨A, c, hv, _⟩ := h
  exact ⟨A, c, hv⟩
theorem draws_vector {w : World} {g n : Nat} {r : Value} (h : Blk w g #[r] 121) (hr : ∃ A c, r = .slice A n c) : Draws w 162 #[ptr g] (.int .i64 (n : Int)) := by
  obtain ⟨A, c, rfl⟩ := hr
  exact draws_same fun w' hb => size_vector g n c A w' ((h.below hb).cell 0 _ rfl)
theorem draws_code {w : World} {g n n2 : Nat} {p q z rb rl : Value} (h : Blk w g #[p, q, z, rb, rl] 135) (hr : ∃ A c, rb = .slice A n c) (hr2 : ∃ A c, rl = .slice A n2 c) (b1 : n ≤ 65536) (b2 : n2 ≤ 65536) :
    Draws w 163 #[ptr g] (.int .i64 ((n + n2 : Nat) : Int)) := by
  obtain ⟨A, c, rfl⟩ := hr
  obtain ⟨A2, c2, rfl⟩ := hr2
  intro w' hb
  exact size_code g n c n2 c2 A A2 w' ((h.below hb).cell 3 _ rfl) ((h.below hb).cell 4 _ rfl) b1 b2

/-- What add leaves. -/
def AddOk (w w' : World) (base hp lim : Nat) (ob' : Obs) (lab1 : Nat → Option Lab) : Prop := ∃ lab' P', HeapIs w' base hp lim ob' lab' P' ∧ After w w' lab1 lab'

/-- The world in which place is called, and the one in which add ends. -/
theorem add_end {w : World} {base hp lim q : Nat} {ob : Obs} {lab labO : Nat → Option Lab} {P : Parts} {v : Value} {o : Ob} (h : HeapIs w base hp lim ob lab P) (hn : NewLab w base (freeTo ob lim) labO lab)
    (ho : ObAt w labO (freeTo ob lim) v (some o)) (hs : Small (some o)) (hb : base ≤ w.heap.size) (hfull : freeTo ob lim < lim) (hfit : usedTo ob lim + o.size ≤ 1048576) :
    (∀ q w1, w1 = ((w.alloc (.cells #[.int .i64 0, .int .i64 0] 28)).drewN q).setCell ⟨hp, 3, none⟩ (.int .i64 ((usedTo ob lim : Int) + (o.size : Int))) →
      Calls Tryd.prog 106 #[ptr hp, v] w1 fun e w2 => e = .returned (.int .i64 (freeTo ob lim : Int)) ∧ Blk w2 w.heap.size #[.int .i64 0, .int .i64 0] 28 ∧ PlaceOk w1 w2 base hp lim ob (both labO lab) o (.int .i64 ((usedTo ob lim : Int) + (o.size : Int)))) ∧
    (∀ w2, PlaceOk (((w.alloc (.cells #[.int .i64 0, .int .i64 0] 28)).drewN q).setCell ⟨hp, 3, none⟩ (.int .i64 ((usedTo ob lim : Int) + (o.size : Int)))) w2 base hp lim ob (both labO lab) o (.int .i64 ((usedTo ob lim : Int) + (o.size : Int))) → ∀ x y,
      AddOk w ((w2.setCell ⟨w.heap.size, 0, none⟩ x).setCell ⟨w.heap.size, 1, none⟩ y) base hp lim (put ob (freeTo ob lim) (some o)) (both labO lab)) := by
  have hU := h.toU.addLab hn
  have hb1 : Below w.heap.size w (w.alloc (.cells #[.int .i64 0, .int .i64 0] 28)) := (Below.refl _ _).alloc (Nat.le_refl _) _
  have hhp := h.blk.lt
  have kq : ∀ q, Keeps (fun b => b = hp) w (((w.alloc (.cells #[.int .i64 0, .int .i64 0] 28)).drewN q).setCell ⟨hp, 3, none⟩ (.int .i64 ((usedTo ob lim : Int) + (o.size : Int)))) := fun q =>
    (Keeps.of_below (below_drewN hb1 q)).setCell ⟨hp, 3, none⟩ _ fun _ => rfl
  have nr : both labO lab w.heap.size = none := by
    cases hh : both labO lab w.heap.size with
    | none => rfl
    | some l => have := (hU.inb _ l hh).2; omega
  have szq : ∀ q, w.heap.size + 1 ≤ (((w.alloc (.cells #[.int .i64 0, .int .i64 0] 28)).drewN q).setCell ⟨hp, 3, none⟩ (.int .i64 ((usedTo ob lim : Int) + (o.size : Int)))).heap.size := fun q => by simp [World.setCell, World.drewN]
  constructor
  · rintro q w1 rfl
    have hB1 := ((h.blk.below (below_drewN hb1 q)).set 3 (.int .i64 ((usedTo ob lim : Int) + (o.size : Int))))
    have hU1 := hU.count (kq q) hB1
    have ho1 : ObAt _ (both labO lab) (freeTo ob lim) v (some o) := ho.both.keeps (kq q) fun g k hg hf => ⟨fun e => (by subst e; rw [hU.hdr] at hg; cases hg; cases hf), hg⟩
    refine (place_any hU1 (Nat.le_trans hb (kq q).size) hfull ho1 hs).mono ?_
    rintro e w2 ⟨he, hok⟩
    refine ⟨he, ?_, hok⟩
    obtain ⟨lab', P', _, ha⟩ := hok
    have hnew : Blk (((w.alloc (.cells #[.int .i64 0, .int .i64 0] 28)).drewN q).setCell ⟨hp, 3, none⟩ (.int .i64 ((usedTo ob lim : Int) + (o.size : Int)))) w.heap.size #[.int .i64 0, .int .i64 0] 28 :=
      Blk.setOther (w := (w.alloc (.cells #[.int .i64 0, .int .i64 0] 28)).drewN q) (Blk.new w _ _) _ _ (by show hp ≠ w.heap.size; omega)
    exact hnew.keeps ha.keeps (by unfold Of; rw [nr]; simp)
  · intro w2 hok x y
    obtain ⟨lab', P', hU2, ha⟩ := hok
    have hm : freeTo ob lim < lim := hfull
    have hnone : ob (freeTo ob lim) = none := (freeTo_spec ob lim).2.2 hfull
    have hu : usedTo (put ob (freeTo ob lim) (some o)) lim = usedTo ob lim + o.size := by
      have := usedTo_put ob lim (freeTo ob lim) (some o) hm
      rw [hnone] at this
      simp only [sizeO] at this
      omega
    have hI : HeapIs w2 base hp lim (put ob (freeTo ob lim) (some o)) lab' P' := by
      refine HeapU.toIs ?_ (by omega)
      rw [show ((usedTo (put ob (freeTo ob lim) (some o)) lim : Nat) : Int) = (usedTo ob lim : Int) + (o.size : Int) from by omega]
      exact hU2
    have nl : lab' w.heap.size = none := by
      cases hh : lab' w.heap.size with
      | none => rfl
      | some l =>
        rcases ha.grow w.heap.size (by unfold Of; rw [hh]; simp) with e | e
        · exact absurd nr e
        · have := szq q; omega
    have kr : Keeps (fun b => b = w.heap.size) w2 ((w2.setCell ⟨w.heap.size, 0, none⟩ x).setCell ⟨w.heap.size, 1, none⟩ y) :=
      ((Keeps.refl (fun b => b = w.heap.size) w2).setCell ⟨w.heap.size, 0, none⟩ _ fun _ => rfl).setCell ⟨w.heap.size, 1, none⟩ _ fun _ => rfl
    refine ⟨lab', P', hI.keeps kr fun b hb => by subst hb; exact nl, ?_, ?_⟩
    · have k1 : Keeps (Of (both labO lab)) w w2 := ((kq q).mono fun b _ e => by subst e; unfold Of; rw [hU.hdr]; simp).then ha.keeps fun b _ hb => hb
      exact k1.then kr fun b hb e => by omega
    · intro b hb
      rcases ha.grow b hb with e | e
      · exact .inl e
      · have := szq q; exact .inr (by omega)

theorem add_any {w : World} {base hp lim : Nat} {ob : Obs} {lab labO : Nat → Option Lab} {P : Parts} {v : Value} {o : Ob} (h : HeapIs w base hp lim ob lab P) (hn : NewLab w base (freeTo ob lim) labO lab)
    (ho : ObAt w labO (freeTo ob lim) v (some o)) (hs : Small (some o)) (hb : base ≤ w.heap.size) :
    Calls Tryd.prog 67 #[ptr hp, v] w fun e w' => e = .returned (.tuple #[wd (addO ob lim o).1, .int .i64 (addO ob lim o).2.1]) ∧ AddOk w w' base hp lim (addO ob lim o).2.2 (both labO lab) := by
  obtain ⟨c0, c1, c2, c3⟩ := h.blk.four
  have hM := draws_many h
  have hR := draws_room h
  have hsz := small_size hs
  have hml := manyTo_le ob lim
  have hfl := freeTo_lt_iff ob lim
  have bad : ∀ e w', e = Ending.returned (.tuple #[wd (0, 0), .int .i64 7]) ∧ Below w.heap.size w w' → e = .returned (.tuple #[wd (0, 0), .int .i64 7]) ∧ AddOk w w' base hp lim ob (both labO lab) := fun e w' ⟨he, hbw⟩ =>
    ⟨he, lab, P, h.below hbw, .of_below hbw, fun b hb' => .inl (by
      unfold Of at *
      cases hh : lab b with
      | none => exact absurd hh hb'
      | some l => rw [both_old hn hh]; simp)⟩
  unfold addO
  by_cases hfull : freeTo ob lim < lim
  · have hlt : manyTo ob lim < lim := by have := hfl.1 hfull; omega
    by_cases hfit : usedTo ob lim + o.size ≤ 1048576
    · rw [if_pos ⟨hfull, hfit⟩]
      have he := fun q => add_end (q := q) h hn ho hs hb hfull hfit
      cases o with
      | cons a d =>
        have ho' := ho
        obtain ⟨g, rfl, hl, hB⟩ := ho'
        refine (add_cons_fits hp lim (manyTo ob lim) (usedTo ob lim) g _ (freeTo ob lim) _ w hM hR (draws_cons g) h.used (Nat.le_trans hsz (by omega)) hlt c0 hfit c3 (h.blk.free 3) (he 0).1).mono ?_
        rintro e w' ⟨rfl, q, w2, hok, rfl⟩
        exact ⟨rfl, (he q).2 w2 hok _ _⟩
      | text s k =>
        have ho' := ho
        obtain ⟨g, rfl, hl, hB⟩ := ho'
        refine (add_text_fits hp lim (manyTo ob lim) (usedTo ob lim) g _ (freeTo ob lim) _ w hM hR (draws_text hB) h.used (Nat.le_trans hsz (by omega)) hlt c0 hfit c3 (h.blk.free 3) (he 0).1).mono ?_
        rintro e w' ⟨rfl, q, w2, hok, rfl⟩
        exact ⟨rfl, (he q).2 w2 hok _ _⟩
      | vec l =>
        have ho' := ho
        obtain ⟨g, r, rfl, hl, hB, hr⟩ := ho'
        refine (add_vector_fits hp lim (manyTo ob lim) (usedTo ob lim) g _ (freeTo ob lim) _ w hM hR (draws_vector hB (slat_slice hr)) h.used (Nat.le_trans hsz (by omega)) hlt c0 hfit c3 (h.blk.free 3) (he 0).1).mono ?_
        rintro e w' ⟨rfl, q, w2, hok, rfl⟩
        exact ⟨rfl, (he q).2 w2 hok _ _⟩
      | code p q z b l =>
        have ho' := ho
        obtain ⟨g, rb, rl, rfl, hl, hB, hrb, hrl⟩ := ho'
        refine (add_code_fits hp lim (manyTo ob lim) (usedTo ob lim) g _ (freeTo ob lim) _ w hM hR (draws_code hB (slat_slice hrb) (slat_slice hrl) hs.1 hs.2) h.used (Nat.le_trans hsz (by omega)) hlt c0 hfit c3 (h.blk.free 3) (he 0).1).mono ?_
        rintro e w' ⟨rfl, q, w2, hok, rfl⟩
        exact ⟨rfl, (he q).2 w2 hok _ _⟩
    · rw [if_neg fun hh => hfit hh.2]
      cases o with
      | cons a d =>
        obtain ⟨g, rfl, hl, hB⟩ := ho
        exact (add_cons_over hp lim (manyTo ob lim) (usedTo ob lim) g _ w hM hR (draws_cons g) h.used (Nat.le_trans hsz (by omega)) hlt c0 (Nat.lt_of_not_le hfit)).mono bad
      | text s k =>
        obtain ⟨g, rfl, hl, hB⟩ := ho
        exact (add_text_over hp lim (manyTo ob lim) (usedTo ob lim) g _ w hM hR (draws_text hB) h.used (Nat.le_trans hsz (by omega)) hlt c0 (Nat.lt_of_not_le hfit)).mono bad
      | vec l =>
        obtain ⟨g, r, rfl, hl, hB, hr⟩ := ho
        exact (add_vector_over hp lim (manyTo ob lim) (usedTo ob lim) g _ w hM hR (draws_vector hB (slat_slice hr)) h.used (Nat.le_trans hsz (by omega)) hlt c0 (Nat.lt_of_not_le hfit)).mono bad
      | code p q z b l =>
        obtain ⟨g, rb, rl, rfl, hl, hB, hrb, hrl⟩ := ho
        exact (add_code_over hp lim (manyTo ob lim) (usedTo ob lim) g _ w hM hR (draws_code hB (slat_slice hrb) (slat_slice hrl) hs.1 hs.2) h.used (Nat.le_trans hsz (by omega)) hlt c0 (Nat.lt_of_not_le hfit)).mono bad
  · rw [if_neg fun hh => hfull hh.1]
    have hml : manyTo ob lim = lim := Classical.byContradiction fun hh => hfull (hfl.2 hh)
    rw [hml] at hM
    exact (add_full hp lim v w hM c0).mono bad
end Go.Proofs.YtcdlfgggmigcnaaDoor.Add
