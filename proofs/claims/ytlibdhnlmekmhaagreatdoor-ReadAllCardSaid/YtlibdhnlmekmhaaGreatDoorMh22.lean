/- The contract of (*Heap).add over a heap: it stores an object under the first free number, or reports that the heap is full. | The contracts of slices.Clone at words and bytes, and of copyistkit.Own at words. | The contracts of Cons and Vec. | The contracts of Vec and Text. -/
import Derived.Test.YtlibdhnlmekmhaaGreatDoorRows
import Derived.WalkSpells
import Derived.WalkLawsBesides
import Derived.Test.YtlibdhnlmekmhaaGreatDoorMh03
import Derived.Test.YtlibdhnlmekmhaaGreatDoorMh18
import Derived.Test.YtlibdhnlmekmhaaGreatDoorMh21
/- The contract of (*Heap).add over a heap: it stores an object under the first free number, or reports that the heap is full. -/
section
namespace Go.Proofs.YtlibdhnlmekmhaaGreatDoor.Add
set_option maxRecDepth 100000
open Go.RowKit
open Go.Proofs.YtlibdhnlmekmhaaGreatDoor.Own Go.Proofs.YtlibdhnlmekmhaaGreatDoor.Hp Go.Proofs.YtlibdhnlmekmhaaGreatDoor.HeapOrd Go.Proofs.YtlibdhnlmekmhaaGreatDoor.Rep Go.Proofs.YtlibdhnlmekmhaaGreatDoor.Base Go.Proofs.YtlibdhnlmekmhaaGreatDoor.Get Go.Proofs.YtlibdhnlmekmhaaGreatDoor.Meth Go.Proofs.YtlibdhnlmekmhaaGreatDoor.Quick Go.Proofs.YtlibdhnlmekmhaaGreatDoor.Size Go.Proofs.YtlibdhnlmekmhaaGreatDoor.Nums Go.Proofs.YtlibdhnlmekmhaaGreatDoor.Place

/-- What add returns: a word, an error number, the objects behind it. -/
def addO (ob : Obs) (lim : Nat) (o : Ob) : Wd × Int × Obs :=
  if freeTo ob lim < lim ∧ usedTo ob lim + o.size ≤ 1048576 then ((o.kind, (freeTo ob lim : Int)), 0, put ob (freeTo ob lim) (some o)) else ((0, 0), 7, ob)

theorem small_size {o : Ob} (h : Small (some o)) : o.size ≤ 131072 := by
  cases o with
  | cons a d => simp [Ob.size]
  | text s k => have h : k ≤ 65536 := h; simp only [Ob.size]; omega
  | vec l => have h : l.length ≤ 65536 := h; simp only [Ob.size]; omega
  | code p q z b l => have h1 := h.1; have h2 := h.2; simp only [Ob.size]; omega

theorem draws_cons {w : World} (g : Nat) : Draws w 286 #[ptr g] (.int .i64 ((0 : Nat) : Int)) := draws_same fun w _ => size_cons _ w
theorem draws_text {w : World} {g k : Nat} {s : ByteArray} (h : Blk w g #[.string s, .int .i64 (k : Int)] 114) : Draws w 290 #[ptr g] (.int .i64 (k : Int)) :=
  draws_same fun w' hb => size_text g k w' ((h.below hb).cell 1 _ rfl)
theorem slat_slice {w : World} {lab : Nat → Option Lab} {k : Lab} {v : Value} {n : Nat} {xs : List Value} (h : SlAt w lab k v n xs) : ∃ A c, v = .slice A n c := by
  obtain ⟨A, c, hv, _⟩ := h
  exact ⟨A, c, hv⟩
theorem draws_vector {w : World} {g n : Nat} {r : Value} (h : Blk w g #[r] 193) (hr : ∃ A c, r = .slice A n c) : Draws w 293 #[ptr g] (.int .i64 (n : Int)) := by
  obtain ⟨A, c, rfl⟩ := hr
  exact draws_same fun w' hb => size_vector g n c A w' ((h.below hb).cell 0 _ rfl)
theorem draws_code {w : World} {g n n2 : Nat} {p q z rb rl : Value} (h : Blk w g #[p, q, z, rb, rl] 289) (hr : ∃ A c, rb = .slice A n c) (hr2 : ∃ A c, rl = .slice A n2 c) (b1 : n ≤ 65536) (b2 : n2 ≤ 65536) :
    Draws w 294 #[ptr g] (.int .i64 ((n + n2 : Nat) : Int)) := by
  obtain ⟨A, c, rfl⟩ := hr
  obtain ⟨A2, c2, rfl⟩ := hr2
  intro w' hb
  exact size_code g n c n2 c2 A A2 w' ((h.below hb).cell 3 _ rfl) ((h.below hb).cell 4 _ rfl) b1 b2

/-- What add leaves. -/
def AddOk (w w' : World) (base hp lim : Nat) (ob' : Obs) (lab1 : Nat → Option Lab) : Prop := ∃ lab' P', HeapIs w' base hp lim ob' lab' P' ∧ After w w' lab1 lab'

/-- The world in which place is called, and the one in which add ends. -/
theorem add_end {w : World} {base hp lim q : Nat} {ob : Obs} {lab labO : Nat → Option Lab} {P : Parts} {v : Value} {o : Ob} (h : HeapIs w base hp lim ob lab P) (hn : NewLab w base (freeTo ob lim) labO lab)
    (ho : ObAt w labO (freeTo ob lim) v (some o)) (hs : Small (some o)) (hb : base ≤ w.heap.size) (hfull : freeTo ob lim < lim) (hfit : usedTo ob lim + o.size ≤ 1048576) :
    (∀ q w1, w1 = ((w.alloc (.cells #[.int .i64 0, .int .i64 0] 28)).drewN q).setCell ⟨hp, 3, none⟩ (.int .i64 ((usedTo ob lim : Int) + (o.size : Int))) →
      Calls Tryz.prog 157 #[ptr hp, v] w1 fun e w2 => e = .returned (.int .i64 (freeTo ob lim : Int)) ∧ Blk w2 w.heap.size #[.int .i64 0, .int .i64 0] 28 ∧ PlaceOk w1 w2 base hp lim ob (both labO lab) o (.int .i64 ((usedTo ob lim : Int) + (o.size : Int)))) ∧
    (∀ w2, PlaceOk (((w.alloc (.cells #[.int .i64 0, .int .i64 0] 28)).drewN q).setCell ⟨hp, 3, none⟩ (.int .i64 ((usedTo ob lim : Int) + (o.size : Int)))) w2 base hp lim ob (both labO lab) o (.int .i64 ((usedTo ob lim : Int) + (o.size : Int))) → ∀ x y,
      AddOk w ((w2.setCell ⟨w.heap.size, 0, none⟩ x).setCell ⟨w.heap.size, 1, none⟩ y) base hp lim (put ob (freeTo ob lim) (some o)) (both labO lab)) := by
  have hU := h.toU.addLab hn
  have hb1 : Below w.heap.size w (w.alloc (.cells #[.int .i64 0, .int .i64 0] 28)) := (Below.refl _ _).alloc (Nat.le_refl _) _
  have hhp := h.blk.lt
  have kq : ∀ q, Keeps (fun b => b = hp) w (((w.alloc (.cells #[.int .i64 0, .int .i64 0] 28)).drewN q).setCell ⟨hp, 3, none⟩ (.int .i64 ((usedTo ob lim : Int) + (o.size : Int)))) := fun q =>
    (Keeps.of_below (Go.Proofs.YtlibdhnlmekmhaaGreatDoor.Own.below_drewN hb1 q)).setCell ⟨hp, 3, none⟩ _ fun _ => rfl
  have nr : both labO lab w.heap.size = none := by
    cases hh : both labO lab w.heap.size with
    | none => rfl
    | some l => have := (hU.inb _ l hh).2; omega
  have szq : ∀ q, w.heap.size + 1 ≤ (((w.alloc (.cells #[.int .i64 0, .int .i64 0] 28)).drewN q).setCell ⟨hp, 3, none⟩ (.int .i64 ((usedTo ob lim : Int) + (o.size : Int)))).heap.size := fun q => by simp [World.setCell, World.drewN]
  constructor
  · rintro q w1 rfl
    have hB1 := ((h.blk.below (Go.Proofs.YtlibdhnlmekmhaaGreatDoor.Own.below_drewN hb1 q)).set 3 (.int .i64 ((usedTo ob lim : Int) + (o.size : Int))))
    have hU1 := hU.count (kq q) hB1
    have ho1 : ObAt _ (both labO lab) (freeTo ob lim) v (some o) := ho.both.keeps (kq q) fun g k hg hf => ⟨fun e => (by subst e; rw [hU.hdr] at hg; cases hg; cases hf), hg⟩
    refine (place_any hU1 (Nat.le_trans hb (kq q).size) hfull ho1 hs).mono ?_
    rintro e w2 ⟨he, hok⟩
    refine ⟨he, ?_, hok⟩
    obtain ⟨lab', P', _, ha⟩ := hok
    have hnew : Blk (((w.alloc (.cells #[.int .i64 0, .int .i64 0] 28)).drewN q).setCell ⟨hp, 3, none⟩ (.int .i64 ((usedTo ob lim : Int) + (o.size : Int)))) w.heap.size #[.int .i64 0, .int .i64 0] 28 :=
      Blk.setOther (w := (w.alloc (.cells #[.int .i64 0, .int .i64 0] 28)).drewN q) (Blk.new w _ _) _ _ (by show hp ≠ w.heap.size; omega)
    exact hnew.keeps ha.keeps (by unfold Of; rw [nr]; simp)
  · intro w2 hok x y
    obtain ⟨lab', P', hU2, ha⟩ := hok
    have hm : freeTo ob lim < lim := hfull
    have hnone : ob (freeTo ob lim) = none := (freeTo_spec ob lim).2.2 hfull
    have hu : usedTo (put ob (freeTo ob lim) (some o)) lim = usedTo ob lim + o.size := by
      have := usedTo_put ob lim (freeTo ob lim) (some o) hm
      rw [hnone] at this
      simp only [sizeO] at this
      omega
    have hI : HeapIs w2 base hp lim (put ob (freeTo ob lim) (some o)) lab' P' := by
      refine HeapU.toIs ?_ (by omega)
      rw [show ((usedTo (put ob (freeTo ob lim) (some o)) lim : Nat) : Int) = (usedTo ob lim : Int) + (o.size : Int) from by omega]
      exact hU2
    have nl : lab' w.heap.size = none := by
      cases hh : lab' w.heap.size with
      | none => rfl
      | some l =>
        rcases ha.grow w.heap.size (by unfold Of; rw [hh]; simp) with e | e
        · exact absurd nr e
        · have := szq q; omega
    have kr : Keeps (fun b => b = w.heap.size) w2 ((w2.setCell ⟨w.heap.size, 0, none⟩ x).setCell ⟨w.heap.size, 1, none⟩ y) :=
      ((Keeps.refl (fun b => b = w.heap.size) w2).setCell ⟨w.heap.size, 0, none⟩ _ fun _ => rfl).setCell ⟨w.heap.size, 1, none⟩ _ fun _ => rfl
    refine ⟨lab', P', hI.keeps kr fun b hb => by subst hb; exact nl, ?_, ?_⟩
    · have k1 : Keeps (Of (both labO lab)) w w2 := ((kq q).mono fun b _ e => by subst e; unfold Of; rw [hU.hdr]; simp).then ha.keeps fun b _ hb => hb
      exact k1.then kr fun b hb e => by omega
    · intro b hb
      rcases ha.grow b hb with e | e
      · exact .inl e
      · have := szq q; exact .inr (by omega)

theorem add_any {w : World} {base hp lim : Nat} {ob : Obs} {lab labO : Nat → Option Lab} {P : Parts} {v : Value} {o : Ob} (h : HeapIs w base hp lim ob lab P) (hn : NewLab w base (freeTo ob lim) labO lab)
    (ho : ObAt w labO (freeTo ob lim) v (some o)) (hs : Small (some o)) (hb : base ≤ w.heap.size) :
    Calls Tryz.prog 105 #[ptr hp, v] w fun e w' => e = .returned (.tuple #[wd (addO ob lim o).1, .int .i64 (addO ob lim o).2.1]) ∧ AddOk w w' base hp lim (addO ob lim o).2.2 (both labO lab) := by
  obtain ⟨c0, c1, c2, c3⟩ := h.blk.four
  have hM := draws_many h
  have hR := draws_room h
  have hsz := small_size hs
  have hml := manyTo_le ob lim
  have hfl := freeTo_lt_iff ob lim
  have bad : ∀ e w', e = Ending.returned (.tuple #[wd (0, 0), .int .i64 7]) ∧ Below w.heap.size w w' → e = .returned (.tuple #[wd (0, 0), .int .i64 7]) ∧ AddOk w w' base hp lim ob (both labO lab) := fun e w' ⟨he, hbw⟩ =>
    ⟨he, lab, P, h.below hbw, .of_below hbw, fun b hb' => .inl (by
      unfold Of at *
      cases hh : lab b with
      | none => exact absurd hh hb'
      | some l => rw [both_old hn hh]; simp)⟩
  unfold addO
  by_cases hfull : freeTo ob lim < lim
  · have hlt : manyTo ob lim < lim := by have := hfl.1 hfull; omega
    by_cases hfit : usedTo ob lim + o.size ≤ 1048576
    · rw [if_pos ⟨hfull, hfit⟩]
      have he := fun q => add_end (q := q) h hn ho hs hb hfull hfit
      cases o with
      | cons a d =>
        have ho' := ho
        obtain ⟨g, rfl, hl, hB⟩ := ho'
        refine (add_cons_fits hp lim (manyTo ob lim) (usedTo ob lim) g _ (freeTo ob lim) _ w hM hR (draws_cons g) h.used (Nat.le_trans hsz (by omega)) hlt c0 hfit c3 (h.blk.free 3) (he 0).1).mono ?_
        rintro e w' ⟨rfl, q, w2, hok, rfl⟩
        exact ⟨rfl, (he q).2 w2 hok _ _⟩
      | text s k =>
        have ho' := ho
        obtain ⟨g, rfl, hl, hB⟩ := ho'
        refine (add_text_fits hp lim (manyTo ob lim) (usedTo ob lim) g _ (freeTo ob lim) _ w hM hR (draws_text hB) h.used (Nat.le_trans hsz (by omega)) hlt c0 hfit c3 (h.blk.free 3) (he 0).1).mono ?_
        rintro e w' ⟨rfl, q, w2, hok, rfl⟩
        exact ⟨rfl, (he q).2 w2 hok _ _⟩
      | vec l =>
        have ho' := ho
        obtain ⟨g, r, rfl, hl, hB, hr⟩ := ho'
        refine (add_vector_fits hp lim (manyTo ob lim) (usedTo ob lim) g _ (freeTo ob lim) _ w hM hR (draws_vector hB (slat_slice hr)) h.used (Nat.le_trans hsz (by omega)) hlt c0 hfit c3 (h.blk.free 3) (he 0).1).mono ?_
        rintro e w' ⟨rfl, q, w2, hok, rfl⟩
        exact ⟨rfl, (he q).2 w2 hok _ _⟩
      | code p q z b l =>
        have ho' := ho
        obtain ⟨g, rb, rl, rfl, hl, hB, hrb, hrl⟩ := ho'
        refine (add_code_fits hp lim (manyTo ob lim) (usedTo ob lim) g _ (freeTo ob lim) _ w hM hR (draws_code hB (slat_slice hrb) (slat_slice hrl) hs.1 hs.2) h.used (Nat.le_trans hsz (by omega)) hlt c0 hfit c3 (h.blk.free 3) (he 0).1).mono ?_
        rintro e w' ⟨rfl, q, w2, hok, rfl⟩
        exact ⟨rfl, (he q).2 w2 hok _ _⟩
    · rw [if_neg fun hh => hfit hh.2]
      cases o with
      | cons a d =>
        obtain ⟨g, rfl, hl, hB⟩ := ho
        exact (add_cons_over hp lim (manyTo ob lim) (usedTo ob lim) g _ w hM hR (draws_cons g) h.used (Nat.le_trans hsz (by omega)) hlt c0 (Nat.lt_of_not_le hfit)).mono bad
      | text s k =>
        obtain ⟨g, rfl, hl, hB⟩ := ho
        exact (add_text_over hp lim (manyTo ob lim) (usedTo ob lim) g _ w hM hR (draws_text hB) h.used (Nat.le_trans hsz (by omega)) hlt c0 (Nat.lt_of_not_le hfit)).mono bad
      | vec l =>
        obtain ⟨g, r, rfl, hl, hB, hr⟩ := ho
        exact (add_vector_over hp lim (manyTo ob lim) (usedTo ob lim) g _ w hM hR (draws_vector hB (slat_slice hr)) h.used (Nat.le_trans hsz (by omega)) hlt c0 (Nat.lt_of_not_le hfit)).mono bad
      | code p q z b l =>
        obtain ⟨g, rb, rl, rfl, hl, hB, hrb, hrl⟩ := ho
        exact (add_code_over hp lim (manyTo ob lim) (usedTo ob lim) g _ w hM hR (draws_code hB (slat_slice hrb) (slat_slice hrl) hs.1 hs.2) h.used (Nat.le_trans hsz (by omega)) hlt c0 (Nat.lt_of_not_le hfit)).mono bad
  · rw [if_neg fun hh => hfull hh.1]
    have hml : manyTo ob lim = lim := Classical.byContradiction fun hh => hfull (hfl.2 hh)
    rw [hml] at hM
    exact (add_full hp lim v w hM c0).mono bad
end Go.Proofs.YtlibdhnlmekmhaaGreatDoor.Add
end

/- The contracts of slices.Clone at words and bytes, and of copyistkit.Own at words. -/
section
namespace Go.Proofs.YtlibdhnlmekmhaaGreatDoor.Clone
open Go.RowKit
open Go.Proofs.YtlibdhnlmekmhaaGreatDoor.Own Go.Proofs.YtlibdhnlmekmhaaGreatDoor.Rep

/-- A slice of n elements that reads as these cells. -/
def SlR (w : World) (v : Value) (n : Nat) (xs : List Value) : Prop :=
  ∃ A cap, v = .slice A n cap ∧ n ≤ cap ∧ (0 < n → ∃ g off, A = some ⟨g, off, none⟩ ∧ ∀ j u, xs[j]? = some u → w.cell? ⟨g, off + j, none⟩ = some u)
theorem SlR.below {w w' : World} {v : Value} {n : Nat} {xs : List Value} (h : SlR w v n xs) (hb : Below w.heap.size w w') : SlR w' v n xs := by
  obtain ⟨A, cap, hv, hc, hr⟩ := h
  refine ⟨A, cap, hv, hc, fun h0 => ?_⟩
  obtain ⟨g, off, hA, hj⟩ := hr h0
  exact ⟨g, off, hA, fun j u hu => (hb.cell (World.block_lt_of_cell? _ _ (hj j u hu))).trans (hj j u hu)⟩
theorem SlR.of_own {w : World} {base : Nat} {e : TypeId} {size : Nat} {v : Value} {n : Nat} {xs : List Value} (h : w.ownsRow base e size v n xs) : SlR w v n xs := by
  have hh := h
  rcases h.2 with ⟨rfl, rfl⟩ | ⟨g, cap, cur, rfl, hb, hg, hcap, _, hcs, htake⟩
  · exact ⟨none, 0, rfl, Nat.le_refl _, fun h => absurd h (by simp)⟩
  · exact ⟨_, cap, rfl, hcap, fun _ => ⟨g, 0, rfl, fun j u hu => by rw [Nat.zero_add]; exact (Row.of_owns hh).cell j u hu⟩⟩
theorem SlAt.reads {w : World} {lab : Nat → Option Lab} {k : Lab} {v : Value} {n : Nat} {xs : List Value} (h : SlAt w lab k v n xs) : SlR w v n xs := by
  obtain ⟨A, cap, hv, hc, hr⟩ := h
  refine ⟨A, cap, hv, hc, fun h0 => ?_⟩
  obtain ⟨g, hA, _, hrow⟩ := hr h0
  exact ⟨g, 0, hA, fun j u hu => by rw [Nat.zero_add]; exact hrow.cell j u hu⟩
theorem wcells_length (l : List Hp.Wd) : (wcells l).length = l.length * 2 := by
  induction l with
  | nil => rfl
  | cons x l ih => simp only [wcells, List.length_cons]; rw [ih]; omega
theorem wcells_one (l : List Hp.Wd) : ∀ u ∈ wcells l, u.oneCell' = true := by
  induction l with
  | nil => intro u hu; cases hu
  | cons x l ih =>
    intro u hu
    simp only [wcells, List.mem_cons] at hu
    rcases hu with rfl | rfl | hu
    · rfl
    · rfl
    · exact ih u hu
theorem bcells_one (l : List Int) : ∀ u ∈ bcells l, u.oneCell' = true := by
  intro u hu
  obtain ⟨x, _, rfl⟩ := List.mem_map.1 hu
  rfl

theorem word_info : (Tryz.prog.info? 28).map (fun i => (i.zero, i.size, i.bytes)) = some (some (.agg #[.int .i64 0, .int .i64 0]), 2, 16) := by kernel_rfl
theorem byte_info : (Tryz.prog.info? 5).map (fun i => (i.zero, i.size, i.bytes)) = some (some (.int .u8 0), 1, 1) := by kernel_rfl

theorem cloneW_empty (w : World) : (w.alloc (.cells #[] 28)).ownsRow w.heap.size 28 2 (.slice (some ⟨w.heap.size, 0, none⟩) 0 0) 0 [] :=
  ⟨by simp, .inr ⟨_, 0, #[], rfl, Nat.le_refl _, heap_alloc_new w _, Nat.le_refl _, Nat.zero_le _, rfl, rfl⟩⟩
set_option maxHeartbeats 1000000 in
theorem cloneW_nil (A : Option Addr) (cap : Nat) (w : World) :
    Calls Tryz.prog 195 #[.slice A 0 cap] w fun e w' => (∃ v, e = .returned v ∧ w'.ownsRow w.heap.size 28 2 v 0 []) ∧ Below w.heap.size w w' := by
  have qT : ∀ (w : World) (a : Option Addr) (n c n' c' : Nat), (binOp .eql 36 (.slice a n c) (.slice none n' c')).run Tryz.prog w = .ok (.bool a.isNone) w := fun w a n c n' c' => Lib.run_eql_slice_nil w _ _ a n c n' c' Tryz.underlying36
  cases A
  · go_enter Tryz.func195, Tryz.ntmps195
    go_wp2_with (fail)
    go_ret
    exact ⟨⟨_, rfl, ⟨by simp, .inl ⟨rfl, rfl⟩⟩⟩, Below.refl _ _⟩
  · go_enter Tryz.func195, Tryz.ntmps195
    go_wp2_with (fail)
    go_ret
    exact ⟨⟨_, rfl, cloneW_empty w⟩, (Below.refl w.heap.size w).alloc (Nat.le_refl _) _⟩
set_option maxHeartbeats 1000000 in
theorem cloneW_some (g off n cap : Nat) (xs : List Value) (w : World) (hn : xs.length = n * 2) (h1 : ∀ u ∈ xs, u.oneCell' = true) (hm : n ≤ 1048576) (hr : ∀ j u, xs[j]? = some u → w.cell? ⟨g, off + j, none⟩ = some u) :
    Calls Tryz.prog 195 #[.slice (some ⟨g, off, none⟩) n cap] w fun e w' => (∃ v, e = .returned v ∧ w'.ownsRow w.heap.size 28 2 v n xs) ∧ Below w.heap.size w w' := by
  obtain ⟨i0, hi, hz0, hz1, hz2⟩ := info_parts word_info
  have HI := Lib.hid hi
  have HZ0 := Lib.hid hz0
  have HZ1 := Lib.hid hz1
  have HZ2 := Lib.hid hz2
  have HR := Lib.hid hr
  have HN := Lib.hid hn
  have H1 := Lib.hid h1
  have he := cloneW_empty w
  have qT : ∀ (w : World) (a : Option Addr) (n c n' c' : Nat), (binOp .eql 36 (.slice a n c) (.slice none n' c')).run Tryz.prog w = .ok (.bool a.isNone) w := fun w a n c n' c' => Lib.run_eql_slice_nil w _ _ a n c n' c' Tryz.underlying36
  clear hi hz0 hz1 hz2 hr hn h1
  go_enter Tryz.func195, Tryz.ntmps195
  go_wp2_with (at_builtin; refine wpList_append_own _ rfl (.tmp 5) (.tmp 6) 36 rfl w.heap.size 28 i0 (.agg #[.int .i64 0, .int .i64 0]) 2 16 Tryz.underlying36 HI.out HZ0.out HZ1.out HZ2.out rfl (by decide) _ _ _ rfl he ⟨g, off, none⟩ n cap xs rfl ?c1 ?c2 ?c3 ?c4 ?c5 ?c6 ?_)
  case c1 => exact HN.out
  case c2 =>
    intro j u hj
    have h1 := more (HR.out j u hj) (.cells #[] 28)
    rw [show ((⟨g, off, none⟩ : Addr).add j) = ⟨g, off + j, none⟩ from by simp [Addr.add]]
    exact h1
  case c3 => exact H1.out
  case c4 => unfold maxLen; omega
  case c5 => omega
  case c6 => simp
  intro v' w5 hown5 hgr5 _
  have hb5 : Below w.heap.size w w5 := ((Below.refl w.heap.size w).alloc (Nat.le_refl _) _).grown hgr5 (by simp) (fun k hk => (he.lt k hk).1)
  have HOw := Lib.hid hown5
  clear hown5 hgr5 he
  go_wp2
  go_ret
  exact ⟨⟨_, rfl, HOw.out⟩, hb5⟩
theorem cloneW_any (v : Value) (n : Nat) (xs : List Value) (w : World) (h : SlR w v n xs) (hn : xs.length = n * 2) (h1 : ∀ u ∈ xs, u.oneCell' = true) (hm : n ≤ 1048576) :
    Calls Tryz.prog 195 #[v] w fun e w' => (∃ v, e = .returned v ∧ w'.ownsRow w.heap.size 28 2 v n xs) ∧ Below w.heap.size w w' := by
  obtain ⟨A, cap, rfl, hc, hr⟩ := h
  by_cases h0 : 0 < n
  · obtain ⟨g, off, rfl, hcell⟩ := hr h0
    exact cloneW_some g off n cap xs w hn h1 hm hcell
  · obtain rfl : n = 0 := by omega
    obtain rfl : xs = [] := List.eq_nil_of_length_eq_zero (by omega)
    exact cloneW_nil A cap w

theorem cloneB_empty (w : World) : (w.alloc (.cells #[] 5)).ownsRow w.heap.size 5 1 (.slice (some ⟨w.heap.size, 0, none⟩) 0 0) 0 [] :=
  ⟨by simp, .inr ⟨_, 0, #[], rfl, Nat.le_refl _, heap_alloc_new w _, Nat.le_refl _, Nat.zero_le _, rfl, rfl⟩⟩
theorem ownW_empty (w : World) : (w.alloc (.cells #[] 28)).ownsRow w.heap.size 28 2 (.slice (some ⟨w.heap.size, 0, none⟩) 0 0) 0 [] :=
  ⟨by simp, .inr ⟨_, 0, #[], rfl, Nat.le_refl _, heap_alloc_new w _, Nat.le_refl _, Nat.zero_le _, rfl, rfl⟩⟩
set_option maxHeartbeats 1000000 in
theorem ownW_nil (A : Option Addr) (cap : Nat) (w : World) :
    Calls Tryz.prog 53 #[.slice A 0 cap] w fun e w' => (∃ v, e = .returned v ∧ w'.ownsRow w.heap.size 28 2 v 0 []) ∧ Below w.heap.size w w' := by
  cases A
  · go_enter Tryz.func53, Tryz.ntmps53
    go_wp2_with (fail)
    go_ret
    exact ⟨⟨_, rfl, ownW_empty w⟩, (Below.refl w.heap.size w).alloc (Nat.le_refl _) _⟩
  · go_enter Tryz.func53, Tryz.ntmps53
    go_wp2_with (fail)
    go_ret
    exact ⟨⟨_, rfl, ownW_empty w⟩, (Below.refl w.heap.size w).alloc (Nat.le_refl _) _⟩
set_option maxHeartbeats 1000000 in
theorem ownW_some (g off n cap : Nat) (xs : List Value) (w : World) (hn : xs.length = n * 2) (h1 : ∀ u ∈ xs, u.oneCell' = true) (hm : n ≤ 1048576) (hr : ∀ j u, xs[j]? = some u → w.cell? ⟨g, off + j, none⟩ = some u) :
    Calls Tryz.prog 53 #[.slice (some ⟨g, off, none⟩) n cap] w fun e w' => (∃ v, e = .returned v ∧ w'.ownsRow w.heap.size 28 2 v n xs) ∧ Below w.heap.size w w' := by
  obtain ⟨i0, hi, hz0, hz1, hz2⟩ := info_parts word_info
  have HI := Lib.hid hi
  have HZ0 := Lib.hid hz0
  have HZ1 := Lib.hid hz1
  have HZ2 := Lib.hid hz2
  have HR := Lib.hid hr
  have HN := Lib.hid hn
  have H1 := Lib.hid h1
  have he := ownW_empty w
  clear hi hz0 hz1 hz2 hr hn h1
  go_enter Tryz.func53, Tryz.ntmps53
  go_wp2_with (at_builtin; refine wpList_append_own _ rfl (.tmp 3) (.tmp 4) 36 rfl w.heap.size 28 i0 (.agg #[.int .i64 0, .int .i64 0]) 2 16 Tryz.underlying36 HI.out HZ0.out HZ1.out HZ2.out rfl (by decide) _ _ _ rfl he ⟨g, off, none⟩ n cap xs rfl ?c1 ?c2 ?c3 ?c4 ?c5 ?c6 ?_)
  case c1 => exact HN.out
  case c2 =>
    intro j u hj
    have h1 := more (HR.out j u hj) (.cells #[] 28)
    rw [show ((⟨g, off, none⟩ : Addr).add j) = ⟨g, off + j, none⟩ from by simp [Addr.add]]
    exact h1
  case c3 => exact H1.out
  case c4 => unfold maxLen; omega
  case c5 => omega
  case c6 => simp
  intro v' w5 hown5 hgr5 _
  have hb5 : Below w.heap.size w w5 := ((Below.refl w.heap.size w).alloc (Nat.le_refl _) _).grown hgr5 (by simp) (fun k hk => (he.lt k hk).1)
  have HOw := Lib.hid hown5
  clear hown5 hgr5 he
  go_wp2
  go_ret
  exact ⟨⟨_, rfl, HOw.out⟩, hb5⟩
theorem ownW_any (v : Value) (n : Nat) (xs : List Value) (w : World) (h : SlR w v n xs) (hn : xs.length = n * 2) (h1 : ∀ u ∈ xs, u.oneCell' = true) (hm : n ≤ 1048576) :
    Calls Tryz.prog 53 #[v] w fun e w' => (∃ v, e = .returned v ∧ w'.ownsRow w.heap.size 28 2 v n xs) ∧ Below w.heap.size w w' := by
  obtain ⟨A, cap, rfl, hc, hr⟩ := h
  by_cases h0 : 0 < n
  · obtain ⟨g, off, rfl, hcell⟩ := hr h0
    exact ownW_some g off n cap xs w hn h1 hm hcell
  · obtain rfl : n = 0 := by omega
    obtain rfl : xs = [] := List.eq_nil_of_length_eq_zero (by omega)
    exact ownW_nil A cap w
end Go.Proofs.YtlibdhnlmekmhaaGreatDoor.Clone
end

/- The contracts of Cons and Vec. -/
section
namespace Go.Proofs.YtlibdhnlmekmhaaGreatDoor.Make
set_option maxRecDepth 100000
open Go.RowKit
open Go.Proofs.YtlibdhnlmekmhaaGreatDoor.Own Go.Proofs.YtlibdhnlmekmhaaGreatDoor.Hp Go.Proofs.YtlibdhnlmekmhaaGreatDoor.HeapOrd Go.Proofs.YtlibdhnlmekmhaaGreatDoor.Rep Go.Proofs.YtlibdhnlmekmhaaGreatDoor.Base Go.Proofs.YtlibdhnlmekmhaaGreatDoor.Get Go.Proofs.YtlibdhnlmekmhaaGreatDoor.Size Go.Proofs.YtlibdhnlmekmhaaGreatDoor.Add Go.Proofs.YtlibdhnlmekmhaaGreatDoor.Clone

/-- From the world in which add is called to the one in which its caller ends. -/
theorem make_end {w w1 w2 : World} {base hp lim n r : Nat} {ob ob' : Obs} {lab labO : Nat → Option Lab} {P : Parts} {cs : Array Value} {t : TypeId} (h : HeapIs w base hp lim ob lab P) (hb : Below w.heap.size w w1) (_hn : NewLab w1 base n labO lab)
    (hO : ∀ b, labO b ≠ none → w.heap.size ≤ b) (hr1 : w.heap.size ≤ r) (hr : labO r = none) (hB : Blk w1 r cs t) (hok : AddOk w1 w2 base hp lim ob' (both labO lab)) :
    Blk w2 r cs t ∧ (∀ x y, AddOk w ((w2.setCell ⟨r, 0, none⟩ x).setCell ⟨r, 1, none⟩ y) base hp lim ob' lab) := by
  obtain ⟨lab', P', hI, ha⟩ := hok
  have hr2 := hB.lt
  have nr : both labO lab r = none := by
    unfold both
    rw [hr]
    cases hh : lab r with
    | none => rfl
    | some l => have := (h.inb r l hh).2; omega
  have hof : ∀ b, b < w.heap.size → Of (both labO lab) b → Of lab b := fun b hlt hb' => by
    unfold Of both at hb'
    cases hh : labO b with
    | none => rw [hh] at hb'; exact hb'
    | some l => have := hO b (by rw [hh]; simp); omega
  have nl : lab' r = none := by
    cases hh : lab' r with
    | none => rfl
    | some l =>
      rcases ha.grow r (by unfold Of; rw [hh]; simp) with e | e
      · exact absurd nr e
      · omega
  refine ⟨hB.keeps ha.keeps (by unfold Of; rw [nr]; simp), fun x y => ?_⟩
  have kr : Keeps (fun b => b = r) w2 ((w2.setCell ⟨r, 0, none⟩ x).setCell ⟨r, 1, none⟩ y) := ((Keeps.refl (fun b => b = r) w2).setCell ⟨r, 0, none⟩ _ fun _ => rfl).setCell ⟨r, 1, none⟩ _ fun _ => rfl
  refine ⟨lab', P', hI.keeps kr fun b hb => by subst hb; exact nl, ?_, ?_⟩
  · exact ((Keeps.of_below (F := Of lab) hb).then ha.keeps hof).then kr fun b hlt e => by omega
  · intro b hb'
    rcases ha.grow b hb' with e | e
    · by_cases hlt : b < w.heap.size
      · exact .inl (hof b hlt e)
      · exact .inr (by omega)
    · exact .inr (Nat.le_trans hb.size e)

/-- Labels for one block of an object, and for a block and the rows that it leads to. -/
def lab1 (g n : Nat) (b : Nat) : Option Lab := if b = g then some (.obj n) else none
def lab2 (g n : Nat) (rv : Value) (b : Nat) : Option Lab := if b = g then some (.obj n) else if rv.ownBlock = some b then some (.row n) else none

theorem SlAt.of_owns {w : World} {lab : Nat → Option Lab} {k : Lab} {base : Nat} {e : TypeId} {size : Nat} {v : Value} {n : Nat} {xs : List Value} (h : w.ownsRow base e size v n xs) (hl : ∀ b, v.ownBlock = some b → lab b = some k) : SlAt w lab k v n xs := by
  have hh := h
  rcases h.2 with ⟨rfl, rfl⟩ | ⟨g, cap, cur, rfl, hb, hg, hcap, _, hcs, htake⟩
  · exact ⟨none, 0, rfl, Nat.le_refl _, fun h => absurd h (by simp)⟩
  · exact ⟨_, cap, rfl, hcap, fun _ => ⟨g, rfl, hl g rfl, Row.of_owns hh⟩⟩

theorem owns_base' {w : World} {base base' : Nat} {e : TypeId} {size : Nat} {v : Value} {n : Nat} {xs : List Value} (h : w.ownsRow base e size v n xs) (hb : base' ≤ base) : w.ownsRow base' e size v n xs := by
  refine ⟨h.1, ?_⟩
  rcases h.2 with h0 | ⟨g, cap, cur, hv, hbg, rest⟩
  · exact .inl h0
  · exact .inr ⟨g, cap, cur, hv, by omega, rest⟩
theorem lab_none {w : World} {base hp lim : Nat} {ob : Obs} {lab : Nat → Option Lab} {P : Parts} (h : HeapIs w base hp lim ob lab P) {b : Nat} (hb : w.heap.size ≤ b) : lab b = none := by
  cases hh : lab b with
  | none => rfl
  | some l => have := (h.inb b l hh).2; omega

set_option maxHeartbeats 4000000 in
theorem cons_any {w : World} {base hp lim : Nat} {ob : Obs} {lab : Nat → Option Lab} {P : Parts} (h : HeapIs w base hp lim ob lab P) (hb : base ≤ w.heap.size) (x y : Wd) :
    Calls Tryz.prog 55 #[ptr hp, wd x, wd y] w fun e w' => e = .returned (.tuple #[wd (addO ob lim (.cons x y)).1, .int .i64 (addO ob lim (.cons x y)).2.1]) ∧ AddOk w w' base hp lim (addO ob lim (.cons x y)).2.2 lab := by
  obtain ⟨W1, hW1⟩ : ∃ W1, W1 = ((w.alloc (.cells #[.int .i64 x.1, .int .i64 x.2] 28)).alloc (.cells #[.int .i64 y.1, .int .i64 y.2] 28)).alloc (.cells #[.int .i64 0, .int .i64 0] 28) := ⟨_, rfl⟩
  have hb1 : Below w.heap.size w W1 := by rw [hW1]; exact (((Below.refl _ _).alloc (Nat.le_refl _) _).alloc (by simp) _).alloc (by simp; omega) _
  have hs1 : W1.heap.size = w.heap.size + 1 + 1 + 1 := by rw [hW1]; simp
  have hr1 : Blk W1 (w.heap.size + 1 + 1) #[.int .i64 0, .int .i64 0] 28 := by rw [hW1]; have := Blk.new ((w.alloc (.cells #[.int .i64 x.1, .int .i64 x.2] 28)).alloc (.cells #[.int .i64 y.1, .int .i64 y.2] 28)) #[.int .i64 0, .int .i64 0] 28; simpa using this
  have hb2 := hb1.alloc hb1.size (.cells #[.int .i64 x.1, .int .i64 x.2, .int .i64 y.1, .int .i64 y.2] 97)
  have hnl : NewLab (W1.alloc (.cells #[.int .i64 x.1, .int .i64 x.2, .int .i64 y.1, .int .i64 y.2] 97)) base (freeTo ob lim) (lab1 W1.heap.size (freeTo ob lim)) lab := by
    refine ⟨fun b l hl => ?_, fun b l hl => ?_⟩
    · unfold lab1 at hl
      split at hl
      · rename_i e
        subst e
        exact ⟨lab_none h hb1.size, by omega, by simp⟩
      · cases hl
    · unfold lab1 at hl
      split at hl
      · cases hl; rfl
      · cases hl
  have hA := add_any (h.below hb2) hnl (v := .iface 93 (ptr W1.heap.size)) (o := .cons x y) ⟨_, rfl, by simp [lab1], Blk.new _ _ _⟩ trivial (Nat.le_trans hb hb2.size)
  have hE := fun w2 ob' => make_end (w2 := w2) (ob' := ob') h hb2 hnl (fun b hl => by
    unfold lab1 at hl
    split at hl
    · rename_i e; have := hb1.size; omega
    · exact absurd rfl hl) (r := w.heap.size + 1 + 1) (by omega) (by unfold lab1; rw [if_neg (by omega)]) (hr1.alloc _)
  rw [hs1] at hA
  simp only [hs1] at hE
  rw [hW1] at hA
  simp only [hW1] at hE
  generalize (addO ob lim (.cons x y)).1 = R at *
  generalize (addO ob lim (.cons x y)).2.1 = C at *
  generalize (addO ob lim (.cons x y)).2.2 = O at *
  have HA := Lib.hid hA
  have HE := Lib.hid hE
  have HV := Lib.hid (valid_any h _ hb1)
  rw [hW1] at HV
  clear hA hE hnl hb2 hr1 hs1 hb1 hW1 h hb
  go_enter Tryz.func55, Tryz.ntmps55
  go_wp2_with fail
  refine HV.out.mono ?_
  rintro e w1 ⟨rfl, rfl⟩
  go_wp2_with fail
  refine HA.out.mono ?_
  rintro e w2 ⟨rfl, hok⟩
  obtain ⟨hB2, hfin⟩ := HE.out w2 O hok
  obtain ⟨b0, b1, e0, e1⟩ := hB2.two
  have HF := Lib.hid hfin
  clear hok hB2 hfin
  go_wp2_with fail
  refine bodyPost_ret (v := .tuple #[wd R, .int .i64 C]) (by simp [results, Tryz.results55, go_sem, b0, b1]) rfl ⟨rfl, HF.out _ _⟩
end Go.Proofs.YtlibdhnlmekmhaaGreatDoor.Make
end

/- The contracts of Vec and Text. -/
section
namespace Go.Proofs.YtlibdhnlmekmhaaGreatDoor.Make
set_option maxRecDepth 100000
open Go.RowKit
open Go.Proofs.YtlibdhnlmekmhaaGreatDoor.Own Go.Proofs.YtlibdhnlmekmhaaGreatDoor.Hp Go.Proofs.YtlibdhnlmekmhaaGreatDoor.HeapOrd Go.Proofs.YtlibdhnlmekmhaaGreatDoor.Rep Go.Proofs.YtlibdhnlmekmhaaGreatDoor.Base Go.Proofs.YtlibdhnlmekmhaaGreatDoor.Get Go.Proofs.YtlibdhnlmekmhaaGreatDoor.Size Go.Proofs.YtlibdhnlmekmhaaGreatDoor.Add Go.Proofs.YtlibdhnlmekmhaaGreatDoor.Clone Go.Proofs.YtlibdhnlmekmhaaGreatDoor.Strs

/-- What Vec returns. -/
def vecO (ob : Obs) (lim : Nat) (l : List Wd) : Wd × Int × Obs := if 65536 < l.length then ((0, 0), 4, ob) else addO ob lim (.vec l)

/-- An object whose header is the block laid last, with a row that was made before. -/
theorem newLab2 {w W2 : World} {base hp lim e n m : Nat} {size : Nat} {ob : Obs} {lab : Nat → Option Lab} {P : Parts} {rv : Value} {xs : List Value} {o : Obj} (h : HeapIs w base hp lim ob lab P) (hb : base ≤ w.heap.size) (hb2 : Below w.heap.size w W2)
    (ho : W2.ownsRow w.heap.size e size rv m xs) :
    NewLab (W2.alloc o) base n (lab2 W2.heap.size n rv) lab ∧ (∀ b, lab2 W2.heap.size n rv b ≠ none → w.heap.size ≤ b) ∧ (∀ b, rv.ownBlock = some b → lab2 W2.heap.size n rv b = some (.row n)) ∧ lab2 W2.heap.size n rv W2.heap.size = some (.obj n) := by
  have hlt : ∀ b, rv.ownBlock = some b → w.heap.size ≤ b ∧ b < W2.heap.size := ho.lt
  refine ⟨⟨fun b l hl => ?_, fun b l hl => ?_⟩, fun b hl => ?_, fun b hb' => ?_, by simp [lab2]⟩
  · unfold lab2 at hl
    split at hl
    · rename_i e
      subst e
      exact ⟨lab_none h hb2.size, Nat.le_trans hb hb2.size, by simp⟩
    · split at hl
      · rename_i e
        have := hlt b e
        exact ⟨lab_none h this.1, by omega, by simp; omega⟩
      · cases hl
  · unfold lab2 at hl
    split at hl
    · cases hl; rfl
    · split at hl
      · cases hl; rfl
      · cases hl
  · unfold lab2 at hl
    split at hl
    · rename_i e; subst e; exact hb2.size
    · split at hl
      · rename_i e; exact (hlt b e).1
      · exact absurd rfl hl
  · unfold lab2
    rw [if_neg (by have := hlt b hb'; omega), if_pos hb']

set_option maxHeartbeats 4000000 in
theorem vec_long {w : World} {base hp lim : Nat} {ob : Obs} {lab : Nat → Option Lab} {P : Parts} (h : HeapIs w base hp lim ob lab P) (A : Option Addr) (n c : Nat) (hn : 65536 < n) (hm : n ≤ 9223372036854775807) :
    Calls Tryz.prog 167 #[ptr hp, .slice A n c] w fun e w' => e = .returned (.tuple #[wd (0, 0), .int .i64 4]) ∧ Below w.heap.size w w' := by
  have hb1 : Below w.heap.size w (w.alloc (.cells #[.int .i64 0, .int .i64 0] 28)) := (Below.refl _ _).alloc (Nat.le_refl _) _
  have HV := Lib.hid (valid_any h _ hb1)
  have hd : decide ((65536 : Int) < n) = true := decide_eq_true (by omega)
  clear h
  go_enter Tryz.func167, Tryz.ntmps167
  go_wp2_with fail
  refine HV.out.mono ?_
  rintro e w1 ⟨rfl, rfl⟩
  go_wp2_with fail
  refine bodyPost_ret (v := .tuple #[wd (0, 0), .int .i64 4]) (by simp [results, Tryz.results167, go_sem]) rfl ⟨rfl, ?_⟩
  exact (Below.refl _ _).alloc (Nat.le_refl _) _
set_option maxHeartbeats 4000000 in
theorem vec_short {w : World} {base hp lim : Nat} {ob : Obs} {lab : Nat → Option Lab} {P : Parts} (h : HeapIs w base hp lim ob lab P) (hb : base ≤ w.heap.size) (A : Option Addr) (c : Nat) (l : List Wd) (hl : SlR w (.slice A l.length c) l.length (wcells l)) (hn : l.length ≤ 65536) :
    Calls Tryz.prog 167 #[ptr hp, .slice A l.length c] w fun e w' => e = .returned (.tuple #[wd (addO ob lim (.vec l)).1, .int .i64 (addO ob lim (.vec l)).2.1]) ∧ AddOk w w' base hp lim (addO ob lim (.vec l)).2.2 lab := by
  obtain ⟨W1, hW1⟩ : ∃ W1, W1 = w.alloc (.cells #[.int .i64 0, .int .i64 0] 28) := ⟨_, rfl⟩
  have hb1 : Below w.heap.size w W1 := by rw [hW1]; exact (Below.refl _ _).alloc (Nat.le_refl _) _
  have hr1 : Blk W1 w.heap.size #[.int .i64 0, .int .i64 0] 28 := by rw [hW1]; exact Blk.new _ _ _
  have HV := Lib.hid (valid_any h _ hb1)
  have HC := Lib.hid (cloneW_any _ _ _ W1 (hl.below hb1) (wcells_length l) (wcells_one l) (by omega))
  have HH := Lib.hid h
  have HB := Lib.hid hb
  have HB1 := Lib.hid hb1
  have HR1 := Lib.hid hr1
  have HW := Lib.hid hW1
  have hW := HW.out
  obtain ⟨R, hR⟩ : ∃ R, addO ob lim (.vec l) = R := ⟨_, rfl⟩
  rw [hR]
  have HRR := Lib.hid hR
  obtain ⟨n, hn0⟩ : ∃ n, l.length = n := ⟨_, rfl⟩
  rw [hn0] at HC hn ⊢
  have HN := Lib.hid hn0
  have hd : decide ((65536 : Int) < n) = false := decide_eq_false (by omega)
  rw [hW1] at HV HC
  clear h hb hb1 hr1 hl hW1 hW hR hn0
  go_enter Tryz.func167, Tryz.ntmps167
  go_wp2_with fail
  refine HV.out.mono ?_
  rintro e w1 ⟨rfl, rfl⟩
  go_wp2_with fail
  refine HC.out.mono ?_
  rintro e W2 ⟨⟨rv, rfl, hown⟩, hb2⟩
  rw [← HW.out] at hb2
  have hb3 := HB1.out.trans (hb2.mono HB1.out.size)
  have hown1 : W2.ownsRow w.heap.size 28 2 rv l.length (wcells l) := by rw [HN.out]; exact owns_base' hown (by simp)
  obtain ⟨n1, n2, n3, n4⟩ := newLab2 (n := freeTo ob lim) (o := .cells #[rv] 193) HH.out HB.out hb3 hown1
  have hb4 := hb3.alloc hb3.size (.cells #[rv] 193)
  have hA := add_any (HH.out.below hb4) n1 (v := .iface 189 (ptr W2.heap.size)) (o := .vec l) ⟨_, rv, rfl, n4, Blk.new _ _ _, SlAt.of_owns (owns_below hown1 ((Below.refl _ _).alloc (Nat.le_refl _) _)) n3⟩ (show l.length ≤ 65536 by rw [HN.out]; exact hn) (Nat.le_trans HB.out hb4.size)
  have hE := fun w2 ob' => make_end (w2 := w2) (ob' := ob') HH.out hb4 n1 n2 (r := w.heap.size) (Nat.le_refl _) (by
    unfold lab2
    have h1 := HR1.out.lt
    have h2 := hb2.size
    rw [if_neg (by omega), if_neg fun e => by have := (hown.lt w.heap.size e).1; simp at this; omega]) ((HR1.out.below hb2).alloc _)
  rw [HRR.out] at hA
  have HA := Lib.hid hA
  have HE := Lib.hid hE
  obtain ⟨A', c', rfl⟩ := slice_of' hown
  clear hA hE n1 n2 n3 n4 hown1 hown hb2 hb3 hb4
  go_wp2_with fail
  refine HA.out.mono ?_
  rintro e w2 ⟨rfl, hok⟩
  obtain ⟨hB2, hfin⟩ := HE.out w2 _ hok
  obtain ⟨b0, b1, e0, e1⟩ := hB2.two
  have HF := Lib.hid hfin
  clear hok hB2 hfin
  go_wp2_with fail
  refine bodyPost_ret (v := .tuple #[wd R.1, .int .i64 R.2.1]) (by simp [results, Tryz.results167, go_sem, b0, b1]) rfl ⟨rfl, HF.out _ _⟩
theorem addOk_below {w w' : World} {base hp lim : Nat} {ob : Obs} {lab : Nat → Option Lab} {P : Parts} (h : HeapIs w base hp lim ob lab P) (hb : Below w.heap.size w w') : AddOk w w' base hp lim ob lab := ⟨lab, P, h.below hb, .below hb⟩
theorem vec_any {w : World} {base hp lim : Nat} {ob : Obs} {lab : Nat → Option Lab} {P : Parts} (h : HeapIs w base hp lim ob lab P) (hb : base ≤ w.heap.size) (v : Value) (l : List Wd) (hl : SlR w v l.length (wcells l)) (hm : l.length ≤ 9223372036854775807) :
    Calls Tryz.prog 167 #[ptr hp, v] w fun e w' => e = .returned (.tuple #[wd (vecO ob lim l).1, .int .i64 (vecO ob lim l).2.1]) ∧ AddOk w w' base hp lim (vecO ob lim l).2.2 lab := by
  have hl' := hl
  obtain ⟨A, c, rfl, _⟩ := hl'
  unfold vecO
  by_cases hn : 65536 < l.length
  · rw [if_pos hn]
    exact (vec_long h A l.length c hn hm).mono fun e w' ⟨he, hbw⟩ => ⟨he, addOk_below h hbw⟩
  · rw [if_neg hn]
    exact vec_short h hb A c l hl (by omega)
end Go.Proofs.YtlibdhnlmekmhaaGreatDoor.Make
end
