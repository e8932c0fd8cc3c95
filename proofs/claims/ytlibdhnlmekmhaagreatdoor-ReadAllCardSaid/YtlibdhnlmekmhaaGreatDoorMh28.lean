/- cons leaves the table's header alone. | A parser's blocks without those that are no cells and lie high. | The contract of prefixed. | A row of words beside a parser. -/
import Derived.RangeFuncOwn
import Derived.LoopTactic
import Derived.Deep.RegionLaw
import Derived.Test.YtlibdhnlmekmhaaGreatDoorMh17
import Derived.Test.YtlibdhnlmekmhaaGreatDoorMh23
import Derived.Test.YtlibdhnlmekmhaaGreatDoorMh27
/- cons leaves the table's header alone. -/
section
namespace Go.Proofs.YtlibdhnlmekmhaaGreatDoor.Rd
set_option maxRecDepth 100000
open Go.RowKit
open Go.Proofs.YtlibdhnlmekmhaaGreatDoor.Own Go.Proofs.YtlibdhnlmekmhaaGreatDoor.Hp Go.Proofs.YtlibdhnlmekmhaaGreatDoor.Rep Go.Proofs.YtlibdhnlmekmhaaGreatDoor.Get Go.Proofs.YtlibdhnlmekmhaaGreatDoor.Add Go.Proofs.YtlibdhnlmekmhaaGreatDoor.Make Go.Proofs.YtlibdhnlmekmhaaGreatDoor.Utf Go.Proofs.YtlibdhnlmekmhaaGreatDoor.Strs
open Go.Proofs.YtlibdhnlmekmhaaGreatDoor.Nt hiding Wd

theorem HT.tpLt {w : World} {base hp lim tp : Nat} {ob : Obs} {tb : Tb} {F : Nat → Prop} (h : HT w base hp lim tp ob tb F) : tp < w.heap.size := by
  obtain ⟨lh, lt, PH, PT, hH, hT, hd, hF⟩ := h.is
  exact hT.blk.lt
theorem HT.cons2 {w : World} {base hp lim tp : Nat} {ob : Obs} {tb : Tb} {F : Nat → Prop} (h : HT w base hp lim tp ob tb F) (x y : Wd) :
    Calls Tryz.prog 55 #[ptr hp, wd x, wd y] w fun e w' => e = .returned (.tuple #[wd (addO ob lim (.cons x y)).1, .int .i64 (addO ob lim (.cons x y)).2.1]) ∧ HTOk w w' base hp lim tp (addO ob lim (.cons x y)).2.2 tb F ∧ w'.heap[tp]? = w.heap[tp]? := by
  obtain ⟨lh, lt, PH, PT, hH, hT, hd, hF⟩ := h.is
  refine (cons_any hH h.high x y).mono ?_
  rintro e w' ⟨he, hok⟩
  have hk : Keeps (Of lh) w w' := by
    obtain ⟨_, _, _, hA⟩ := hok
    exact hA.keeps
  refine ⟨he, HT.ofHeap h.high (fun b hb => ?_) hT hd hF hok, hk.block tp hT.blk.lt fun e => hd tp e (by unfold TOf; rw [hT.hdr]; simp)⟩
  cases hh : lh b with
  | none => exact absurd hh hb
  | some l => exact (hH.inb b l hh).2

/-- Behind the call of Cons. -/
structure ConsedK (X : Fx) (w W : World) (a op b c r : Nat) (s : St) (ob : Obs) (x y : Wd) (F F' : Nat → Prop) : Prop where
  ps : PS X W a op ⟨s.rest, ob, s.tb⟩ F'
  aft : PAfter X w W F F'
  b1 : Blk W b #[.int .i64 x.1, .int .i64 x.2] 28
  b2 : Blk W c #[.int .i64 y.1, .int .i64 y.2] 28
  b3 : Blk W r #[.int .i64 0, .int .i64 0] 28
  m3 : Mine X w F' r
  tlt : X.tp < w.heap.size
  tab : W.heap[X.tp]? = w.heap[X.tp]?
theorem ConsedK.later {X : Fx} {w W W' : World} {a op b c r : Nat} {s : St} {ob : Obs} {x y : Wd} {F F' : Nat → Prop} (h : ConsedK X w W a op b c r s ob x y F F') (hb : Below W.heap.size W W') : ConsedK X w W' a op b c r s ob x y F F' :=
  ⟨h.ps.later hb, h.aft.then_below hb, h.b1.below hb, h.b2.below hb, h.b3.below hb, h.m3, h.tlt, (hb.block _ (Nat.lt_of_lt_of_le h.tlt h.aft.keeps.size)).trans h.tab⟩
theorem ConsedK.cells {X : Fx} {w W : World} {a op b c r : Nat} {s : St} {ob : Obs} {x y : Wd} {F F' : Nat → Prop} (h : ConsedK X w W a op b c r s ob x y F F') : ConsCells X.p b c (ptr X.hp) x y W := consCells h.ps h.b1 h.b2
theorem ConsedK.put {X : Fx} {w W : World} {a op b c r B : Nat} {s : St} {ob : Obs} {x y : Wd} {F F' : Nat → Prop} (h : ConsedK X w W a op b c r s ob x y F F') (hm : Mine X w F' B) (hn : b ≠ B ∧ c ≠ B ∧ r ≠ B ∧ w.heap.size ≤ B) (u v : Value) :
    ConsedK X w ((W.setCell ⟨B, 0, none⟩ u).setCell ⟨B, 1, none⟩ v) a op b c r s ob x y F F' := by
  have hk : Keeps (fun k => k = B) W ((W.setCell ⟨B, 0, none⟩ u).setCell ⟨B, 1, none⟩ v) := (keeps_set W B 0 u).trans (keeps_set _ B 1 v)
  have := h.ps.put2 hm h.aft hn.2.2.2 u v
  exact ⟨this.1, this.2, h.b1.keeps hk hn.1, h.b2.keeps hk hn.2.1, h.b3.keeps hk hn.2.2.1, h.m3, h.tlt, (hk.block _ (Nat.lt_of_lt_of_le h.tlt h.aft.keeps.size) (by have := h.tlt; omega)).trans h.tab⟩

set_option maxHeartbeats 2000000 in
theorem PS.consK {X : Fx} {w : World} {a op : Nat} {s s0 : St} {F : Nat → Prop} (h : PS X w a op s F) (hX : X.Ok) (x y : Wd) (k : Nat) (hk : k = X.l.length - s0.rest.length) :
    Calls Tryz.prog 166 #[pptr X.p, wd x, wd y, .int .i64 (k : Int)] w (fun e w' => Out X w op F retW (consG X.lim s0 s x y) e w' ∧ w'.heap[X.tp]? = w.heap[X.tp]?) := by
  have htl := h.ht.tpLt
  obtain ⟨n, hn⟩ : ∃ n, w.heap.size = n := ⟨_, rfl⟩
  obtain ⟨W3, hW3⟩ : ∃ W3, W3 = ((w.alloc (.cells #[.int .i64 x.1, .int .i64 x.2] 28)).alloc (.cells #[.int .i64 y.1, .int .i64 y.2] 28)).alloc wbox0 := ⟨_, rfl⟩
  have hb3 : Below w.heap.size w W3 := by rw [hW3]; exact (((Below.refl _ _).alloc (Nat.le_refl _) _).alloc (by simp) _).alloc (by simp; omega) _
  have hz3 : W3.heap.size = n + 1 + 1 + 1 := by rw [hW3]; simp [hn]
  obtain ⟨B1, B2, B3⟩ := three_new (w := w) (a := #[.int .i64 x.1, .int .i64 x.2]) (b := #[.int .i64 y.1, .int .i64 y.2]) (c := #[.int .i64 0, .int .i64 0]) (s := 28) (t := 28) (u := 28) (w2 := W3) (by rw [hW3]; exact Below.refl _ _)
  have hP3 := h.later hb3
  have hA3 : PAfter X w W3 F F := .of_below hb3
  have m3 := h.mine (b := w.heap.size + 1 + 1) (by omega)
  have m1 := h.mine (b := w.heap.size) (Nat.le_refl _)
  have m2 := h.mine (b := w.heap.size + 1) (by omega)
  rw [hn] at B1 B2 B3 m1 m2 m3
  unfold consG
  obtain ⟨z, hz⟩ : ∃ z, (addO s.ob X.lim (.cons x y)).1 = z := ⟨_, rfl⟩
  obtain ⟨c, hc⟩ : ∃ c, (addO s.ob X.lim (.cons x y)).2.1 = c := ⟨_, rfl⟩
  obtain ⟨ob, hob⟩ : ∃ o, (addO s.ob X.lim (.cons x y)).2.2 = o := ⟨_, rfl⟩
  rw [hz, hc, hob]
  have hC : ∀ W, Below W3.heap.size W3 W → Calls Tryz.prog 55 #[ptr X.hp, wd x, wd y] W fun e w' => e = .returned (.tuple #[wd z, .int .i64 c]) ∧ ∃ F', ConsedK X w w' a op n (n + 1) (n + 1 + 1) s ob x y F F' ∧ PAfter X W w' F F' := fun W hW => by
    have := (hP3.later hW).ht.cons2 x y
    rw [hz, hc, hob] at this
    refine this.mono fun e w' ⟨he, hok, htab⟩ => ⟨he, ?_⟩
    obtain ⟨F', hP, hA⟩ := (hP3.later hW).ofHT hX hok
    have lt : ∀ b, b < n + 1 + 1 + 1 → b < W.heap.size := fun b hb => by have := hW.size; omega
    exact ⟨F', ⟨hP, (hA3.then_below hW).trans hA, (hA.blk (B1.below hW) m1.f m1.p).1, (hA.blk (B2.below hW) m2.f m2.p).1, (hA.blk (B3.below hW) m3.f m3.p).1, m3.later hA (lt _ (by omega)), htl, htab.trans (((hb3.trans (hW.mono hb3.size)).block _ htl))⟩, hA⟩
  have hC2 : Calls Tryz.prog 55 #[ptr X.hp, wd x, wd y] (W3.alloc wbox0).drew fun e w' => e = .returned (.tuple #[wd z, .int .i64 c]) ∧ ∃ F', ConsedK X w w' a op n (n + 1) (n + 1 + 1) s ob x y F F' ∧ Blk w' W3.heap.size #[.int .i64 0, .int .i64 0] 28 ∧ Mine X w F' W3.heap.size := by
    have hbw : Below W3.heap.size W3 (W3.alloc wbox0).drew := (bel_box _ _).drew
    refine (hC _ hbw).mono fun e w' ⟨he, F', hc', hA⟩ => ⟨he, F', hc', ?_⟩
    have m4 := h.mine (b := W3.heap.size) (by omega)
    have hB4 : Blk (W3.alloc wbox0).drew W3.heap.size #[.int .i64 0, .int .i64 0] 28 := Blk.new W3 _ _
    exact ⟨(hA.blk hB4 m4.f m4.p).1, m4.later hA hB4.lt⟩
  have HC := Lib.hid hC
  have HC2 := Lib.hid hC2
  have hS := consCells hP3 B1 B2
  have HS := Lib.hid (fun W (hW : Below W3.heap.size W3 W) => consCells (hP3.later hW) (B1.below hW) (B2.below hW))
  obtain ⟨s0', s1, s2, s3, s4⟩ := hS
  have HK := Lib.hid hk
  have HNe := Lib.hid (show n ≠ W3.heap.size ∧ n + 1 ≠ W3.heap.size ∧ n + 1 + 1 ≠ W3.heap.size ∧ w.heap.size ≤ W3.heap.size by omega)
  have HZ := Lib.hid hz3
  have HN := Lib.hid hn
  have HBx := Lib.hid (bel_drew (w := W3))
  obtain ⟨R, hR⟩ : ∃ R, (if c = 0 then Res.ok z ⟨s.rest, ob, s.tb⟩ else Res.err c s0.rest.length ob s.tb) = R := ⟨_, rfl⟩
  rw [hR]
  have HR := Lib.hid hR
  clear hR
  clear htl
  clear hC hC2 hk m1 m2 m3 B1 B2 B3 hP3 hA3 hb3 hz3 hz hc hob h hn
  go_enter Tryz.func166, Tryz.ntmps166
  go_wp2_with fail
  rw [← hW3]
  have hn := HN.out
  rw [hn]
  clear hW3 hn
  go_region_held3 (fun w' => w'.cell? ⟨X.p, 0, none⟩ = some (.pointer (some ⟨X.hp, 0, none⟩)) ∧ w'.cell? ⟨n, 0, none⟩ = some (.int .i64 x.1) ∧ w'.cell? ⟨n, 1, none⟩ = some (.int .i64 x.2) ∧ w'.cell? ⟨n + 1, 0, none⟩ = some (.int .i64 y.1) ∧ w'.cell? ⟨n + 1, 1, none⟩ = some (.int .i64 y.2))
    (first | exact HQ.out.cells | exact (HQ.out.put HM4.out HNe.out _ _).cells | exact (HQ.out.later (bel_box _ _)).cells | exact HS.out _ HBx.out | exact HS.out _ (bel_box _ _).drew)
    (first
      | (go_at_call 55; refine (HC.out _ HBx.out).mono ?_; rintro e w7 ⟨rfl, F', hq, _⟩; have HQ := Lib.hid hq; clear hq)
      | (go_at_call 55; refine HC2.out.mono ?_; rintro e w7 ⟨rfl, F', hq, hb4, hm4⟩; obtain ⟨t0, t1, t2, t3⟩ := hb4.two; have HB4 := Lib.hid hb4; have HM4 := Lib.hid hm4; have HQ := Lib.hid hq; clear hq hb4 hm4))
  all_goals (
    first
      | (have hq8 := HQ.out.put HM4.out HNe.out (.int .i64 z.1) (.int .i64 z.2)
         have hb8 : Blk ((w7.setCell ⟨W3.heap.size, 0, none⟩ (.int .i64 z.1)).setCell ⟨W3.heap.size, 1, none⟩ (.int .i64 z.2)) W3.heap.size #[.int .i64 z.1, .int .i64 z.2] 28 := by simpa using (HB4.out.set 0 (.int .i64 z.1)).set 1 (.int .i64 z.2)
         obtain ⟨W8, hW8⟩ : ∃ W, (w7.setCell ⟨W3.heap.size, 0, none⟩ (.int .i64 z.1)).setCell ⟨W3.heap.size, 1, none⟩ (.int .i64 z.2) = W := ⟨_, rfl⟩
         rw [hW8] at hq8 hb8 ⊢
         obtain ⟨b8, hb8e⟩ : ∃ b, W3.heap.size = b := ⟨_, rfl⟩
         rw [hb8e] at hb8 ⊢
         clear t0 t1 t2 t3)
      | (have hq8 := HQ.out.later (bel_box _ (.cells #[.int .i64 z.1, .int .i64 z.2] 28))
         have hb8 := Blk.new w7 #[.int .i64 z.1, .int .i64 z.2] 28
         obtain ⟨W8, hW8⟩ : ∃ W, w7.alloc (.cells #[.int .i64 z.1, .int .i64 z.2] 28) = W := ⟨_, rfl⟩
         rw [hW8] at hq8 hb8 ⊢
         obtain ⟨b8, hb8e⟩ : ∃ b, w7.heap.size = b := ⟨_, rfl⟩
         rw [hb8e] at hb8 ⊢)
    clear hW8 hb8e s0' s1 s2 s3 s4
    obtain ⟨d0, d1, _, _⟩ := hb8.two
    obtain ⟨g0, g1, g2, g3⟩ := hq8.b3.two
    have HQ8 := Lib.hid hq8
    clear hq8 hb8
    by_cases h0 : c = 0
    · subst h0
      obtain rfl := (if_pos rfl).symm.trans HR.out
      go_wp2_with (first
        | (go_at_call 120; refine (check_ok _ _).mono ?_; rintro e w2 ⟨rfl, rfl⟩))
      have hf := HQ8.out.ps.put2 HQ8.out.m3 HQ8.out.aft (by have := HN.out; omega) (.int .i64 z.1) (.int .i64 z.2)
      refine bodyPost_ret (v := wd z) (by simp [results, Tryz.results166, go_sem, g0, g1, g2, g3]) rfl ⟨⟨a, F', rfl, hf.1, hf.2⟩, ?_⟩
      exact ((((keeps_set W8 _ 0 _).trans (keeps_set _ _ 1 _)).block _ (Nat.lt_of_lt_of_le HQ8.out.tlt HQ8.out.aft.keeps.size) (by have := HQ8.out.tlt; have := HN.out; omega))).trans HQ8.out.tab
    · obtain rfl := (if_neg h0).symm.trans HR.out
      have H0 := Lib.hid h0
      clear h0
      go_wp2_with (first
        | (go_at_call 120; refine (check_err c H0.out k _).mono ?_; rintro e w2 ⟨rfl, rfl⟩; unfold faultE))
      exact ⟨rfl, ⟨by rw [HK.out]; rfl, F', HQ8.out.ps.ht, HQ8.out.aft⟩, HQ8.out.tab⟩)
end Go.Proofs.YtlibdhnlmekmhaaGreatDoor.Rd
end

/- A parser's blocks without those that are no cells and lie high. -/
section
namespace Go.Proofs.YtlibdhnlmekmhaaGreatDoor.Rd
set_option maxRecDepth 100000
open Go.RowKit
open Go.Proofs.YtlibdhnlmekmhaaGreatDoor.Own Go.Proofs.YtlibdhnlmekmhaaGreatDoor.Hp Go.Proofs.YtlibdhnlmekmhaaGreatDoor.Rep Go.Proofs.YtlibdhnlmekmhaaGreatDoor.Get Go.Proofs.YtlibdhnlmekmhaaGreatDoor.Add Go.Proofs.YtlibdhnlmekmhaaGreatDoor.Make
open Go.Proofs.YtlibdhnlmekmhaaGreatDoor.Nt hiding Wd
open Classical

/-- From B on, no cells. -/
def NC (B : Nat) (W : World) (b : Nat) : Prop := B ≤ b ∧ ∃ o : Obj, W.heap[b]? = some o ∧ o.isCells = false
theorem blk_nc {w : World} {b B : Nat} {cs : Array Value} {t : TypeId} (h : Blk w b cs t) : ¬ NC B w b := fun ⟨_, o, h1, h2⟩ => by
  unfold Blk at h
  rw [h] at h1
  cases h1
  cases h2
theorem row_nc {w : World} {b B : Nat} {xs : List Value} (h : Row w b xs) : ¬ NC B w b := fun ⟨_, o, h1, h2⟩ => by
  obtain ⟨cur, t, h, _⟩ := h
  rw [h] at h1
  cases h1
  cases h2
theorem owns_nc {w : World} {b B base : Nat} {e : TypeId} {size n : Nat} {v : Value} {xs : List Value} (h : w.ownsRow base e size v n xs) (hb : v.ownBlock = some b) : ¬ NC B w b := fun ⟨_, o, h1, h2⟩ => by
  rcases h.2 with ⟨rfl, _⟩ | ⟨g, cap, cur, rfl, _, hg, _⟩
  · cases hb
  · cases hb
    have h3 : w.heap[g]? = some o := h1
    rw [hg] at h3
    cases h3
    cases h2
noncomputable def cut {α : Type} (T : Nat → Prop) (lab : Nat → Option α) : Nat → Option α := fun b => if T b then none else lab b
theorem cut_keep {α : Type} {T : Nat → Prop} {lab : Nat → Option α} {b : Nat} (h : ¬ T b) : cut T lab b = lab b := if_neg h
theorem cut_some {α : Type} {T : Nat → Prop} {lab : Nat → Option α} {b : Nat} {l : α} (h : cut T lab b = some l) : ¬ T b ∧ lab b = some l := by
  unfold cut at h
  split at h
  · cases h
  · exact ⟨by assumption, h⟩
theorem slAt_trim {w : World} {lab : Nat → Option Lab} {k : Lab} {v : Value} {n B : Nat} {xs : List Value} (h : SlAt w lab k v n xs) : SlAt w (cut (NC B w) lab) k v n xs := by
  obtain ⟨A, cap, hv, hc, hr⟩ := h
  refine ⟨A, cap, hv, hc, fun h0 => ?_⟩
  obtain ⟨g, hA, hg, hrow⟩ := hr h0
  exact ⟨g, hA, by rw [cut_keep (row_nc hrow)]; exact hg, hrow⟩
theorem obAt_trim {w : World} {lab : Nat → Option Lab} {n B : Nat} {v : Value} {o : Option Ob} (h : ObAt w lab n v o) : ObAt w (cut (NC B w) lab) n v o := by
  cases o with
  | none => exact h
  | some o =>
    cases o with
    | cons a d =>
      obtain ⟨g, hv, hg, hb⟩ := h
      exact ⟨g, hv, by rw [cut_keep (blk_nc hb)]; exact hg, hb⟩
    | text s k =>
      obtain ⟨g, hv, hg, hb⟩ := h
      exact ⟨g, hv, by rw [cut_keep (blk_nc hb)]; exact hg, hb⟩
    | vec l =>
      obtain ⟨g, r, hv, hg, hb, hr⟩ := h
      exact ⟨g, r, hv, by rw [cut_keep (blk_nc hb)]; exact hg, hb, slAt_trim hr⟩
    | code p q z b l =>
      obtain ⟨g, rb, rl, hv, hg, hb, hr, hr2⟩ := h
      exact ⟨g, rb, rl, hv, by rw [cut_keep (blk_nc hb)]; exact hg, hb, slAt_trim hr, slAt_trim hr2⟩
theorem heap_trim {w : World} {base hp lim : Nat} {ob : Obs} {lab : Nat → Option Lab} {P : Parts} (h : HeapIs w base hp lim ob lab P) (B : Nat) : HeapIs w base hp lim ob (cut (NC B w) lab) P :=
  { h with
    inb := fun b l hb => h.inb b l (cut_some hb).2
    hdr := by rw [cut_keep (blk_nc h.blk)]; exact h.hdr
    olab := fun k hk => by rw [cut_keep (owns_nc h.objs hk)]; exact h.olab k hk
    each := fun i hi => by
      obtain ⟨v, hv, ho⟩ := h.each i hi
      exact ⟨v, hv, obAt_trim ho⟩
    flab := fun k hk => by rw [cut_keep (owns_nc h.free hk)]; exact h.flab k hk }
theorem tab_trim {w : World} {base tp : Nat} {t : Tb} {lab : Nat → Option TLab} {P : TParts} (h : TabIs w base tp t lab P) (B : Nat) (hm : P.mb < B) : TabIs w base tp t (cut (NC B w) lab) P :=
  { h with
    inb := fun b l hb => h.inb b l (cut_some hb).2
    hdr := by rw [cut_keep (blk_nc h.blk)]; exact h.hdr
    mlab := by rw [cut_keep (fun e => by have := e.1; omega)]; exact h.mlab
    slab := fun k hk => by rw [cut_keep (owns_nc h.syms hk)]; exact h.slab k hk
    plab := fun i k hk => by
      cases hs : t.syms[i]? with
      | some s => rw [cut_keep (owns_nc (h.props i s hs) hk)]; exact h.plab i k hk
      | none =>
        rw [h.tail i (by simpa using hs)] at hk
        cases hk }
/-- The table's map lies below B. -/
def MapLow (tp B : Nat) (w : World) : Prop := ∀ sv mb, Blk w tp #[sv, .map (some mb)] 109 → mb < B
theorem MapLow.same {tp B : Nat} {w w' : World} (h : MapLow tp B w) (e : w'.heap[tp]? = w.heap[tp]?) : MapLow tp B w' := fun sv mb hb => h sv mb (by unfold Blk at hb ⊢; rw [← e]; exact hb)
theorem HT.low {w : World} {base hp lim tp : Nat} {ob : Obs} {tb : Tb} {F : Nat → Prop} (h : HT w base hp lim tp ob tb F) {B : Nat} (hB : w.heap.size ≤ B) : MapLow tp B w := fun sv mb hb => by
  obtain ⟨lh, lt, PH, PT, hH, hT, hd, hF⟩ := h.is
  have h1 := hT.blk
  unfold Blk at hb h1
  rw [hb] at h1
  have e : mb = PT.mb := by
    simp at h1
    first | exact h1.2.symm | exact h1.2
  have := hT.map.lt
  omega
theorem HT.trim {w : World} {base hp lim tp : Nat} {ob : Obs} {tb : Tb} {F : Nat → Prop} (h : HT w base hp lim tp ob tb F) {B : Nat} (hl : MapLow tp B w) : HT w base hp lim tp ob tb (fun b => F b ∧ ¬ NC B w b) := by
  obtain ⟨lh, lt, PH, PT, hH, hT, hd, hF⟩ := h.is
  have e : ∀ {α : Type} (lab : Nat → Option α) b, cut (NC B w) lab b ≠ none ↔ (lab b ≠ none ∧ ¬ NC B w b) := fun lab b => by
    unfold cut
    split
    · simp_all
    · simp_all
  refine ⟨h.high, cut (NC B w) lh, cut (NC B w) lt, PH, PT, heap_trim hH B, tab_trim hT B (hl _ _ hT.blk), fun b h1 h2 => hd b ((e lh b).1 h1).1 ((e lt b).1 h2).1, fun b => ?_⟩
  have e1 := e lh b
  have e2 := e lt b
  unfold Of TOf at hF ⊢
  rw [e1, e2, hF b]
  exact ⟨fun ⟨h1, h2⟩ => h1.elim (fun x => .inl ⟨x, h2⟩) fun x => .inr ⟨x, h2⟩, fun h1 => h1.elim (fun x => ⟨.inl x.1, x.2⟩) fun x => ⟨.inr x.1, x.2⟩⟩
theorem PS.trim {X : Fx} {w : World} {a op : Nat} {s : St} {F : Nat → Prop} (h : PS X w a op s F) {B : Nat} (hl : MapLow X.tp B w) : PS X w a op s (fun b => F b ∧ ¬ NC B w b) :=
  { h with
    ht := h.ht.trim hl
    fp := fun e => h.fp e.1
    fg := fun e => h.fg e.1
    fm := fun e => h.fm e.1 }
end Go.Proofs.YtlibdhnlmekmhaaGreatDoor.Rd
end

/- The contract of prefixed. -/
section
namespace Go.Proofs.YtlibdhnlmekmhaaGreatDoor.Rd
set_option maxRecDepth 100000
open Go.RowKit
open Go.Proofs.YtlibdhnlmekmhaaGreatDoor.Own Go.Proofs.YtlibdhnlmekmhaaGreatDoor.Hp Go.Proofs.YtlibdhnlmekmhaaGreatDoor.Rep Go.Proofs.YtlibdhnlmekmhaaGreatDoor.Get Go.Proofs.YtlibdhnlmekmhaaGreatDoor.Add Go.Proofs.YtlibdhnlmekmhaaGreatDoor.Make Go.Proofs.YtlibdhnlmekmhaaGreatDoor.Utf Go.Proofs.YtlibdhnlmekmhaaGreatDoor.Strs

/-- The heap is not too full. -/
def NF {α : Type} : Res α → Prop
  | .ok _ _ => True
  | .err c _ _ _ => c ≠ 7
/-- A method answers as the plain reader where at most N characters are left. -/
def Runs {α : Type} (X : Fx) (fn : FuncId) (o N : Nat) (ret : α → Ending → World → (Nat → Prop) → Prop) (G : St → Res α) : Prop :=
  ∀ (w : World) (a : Nat) (s : St) (F : Nat → Prop), PS X w a o s F → s.rest.length ≤ N → NF (G s) → Calls Tryz.prog fn #[pptr X.p] w (Out X w o F ret (G s))

set_option maxHeartbeats 2000000 in
theorem PS.prefixed {X : Fx} {w : World} {a op : Nat} {s : St} {F : Nat → Prop} (h : PS X w a op s F) (hX : X.Ok) (n : Int) (len : Nat) (hlen : 1 ≤ len) (hle : len ≤ s.rest.length)
    {G : St → Res Wd} (hG : Runs X 68 (op + 1) (s.rest.length - 1) retW G) (hnf : NF (prefG X.lim G op n len s)) :
    Calls Tryz.prog 168 #[pptr X.p, .int .i64 n, .int .i64 (len : Int)] w (Out X w op F retW (prefG X.lim G op n len s)) := by
  have h1 := h.alloc wbox0
  have hM := h.mine (Nat.le_refl _)
  have hA1 : PAfter X w (w.alloc wbox0) F F := .of_below (bel_box _ _)
  obtain ⟨r, hr⟩ : ∃ r, w.heap.size = r := ⟨_, rfl⟩
  have hB1 : Blk (w.alloc wbox0) r #[.int .i64 0, .int .i64 0] 28 := by rw [← hr]; exact Blk.new w _ _
  rw [hr] at hM
  have HR := Lib.hid hr
  by_cases ho : op = 200
  · rw [show prefG X.lim G op n len s = .err 12 s.rest.length s.ob s.tb from by unfold prefG; rw [if_pos ho]]
    have HO := Lib.hid (h1.openFull ho (len : Int))
    have HH := Lib.hid (And.intro h1.ht hA1)
    clear h h1 hM hA1 hB1 ho hnf hG hr hle hlen
    go_enter Tryz.func168, Tryz.ntmps168
    go_wp2_with fail
    refine HO.out.mono ?_
    rintro e w2 ⟨rfl, rfl⟩
    unfold faultE
    go_wp2_with fail
    exact ⟨rfl, rfl, F, HH.out.1, HH.out.2⟩
  have hop := h.opl
  have hpos := h.pos
  unfold prefG at hnf ⊢
  rw [if_neg ho] at hnf ⊢
  have HO := Lib.hid (h1.open hX ho len hle)
  have hGG : ∀ W a1, PS X W a1 (op + 1) ⟨s.rest.drop len, s.ob, s.tb⟩ F → NF (G ⟨s.rest.drop len, s.ob, s.tb⟩) → Calls Tryz.prog 68 #[pptr X.p] W (Out X W (op + 1) F retW (G ⟨s.rest.drop len, s.ob, s.tb⟩)) := fun W a1 hP hn => hG W a1 _ F hP (by simp; omega) hn
  have HX := Lib.hid hX
  have hz1 : ((op + 1 : Nat) : Int) ≤ 200 := by omega
  have hz2 : 1 ≤ ((op + 1 : Nat) : Int) := by omega
  have HZ : Hid (((op + 1 : Nat) : Int) - 1 = (op : Int)) := by show _ - _ = _; omega
  have HOp := Lib.hid hop
  have HPo := Lib.hid hpos
  have HM := Lib.hid hM
  have HA1 := Lib.hid hA1
  have HB1 := Lib.hid hB1
  cases hq : G ⟨s.rest.drop len, s.ob, s.tb⟩ with
  | err c m ob tb =>
    rw [hq] at hnf hGG
    have HG := Lib.hid fun W a1 hP => hGG W a1 hP hnf
    dsimp only
    clear h h1 hM hA1 hB1 ho hnf hG hr hle hlen hGG hq hop hpos hz1 hz2
    go_enter Tryz.func168, Tryz.ntmps168
    go_wp2_with fail
    refine HO.out.mono ?_
    rintro e w2 ⟨rfl, hP, hA⟩
    have HP := Lib.hid hP
    have HA := Lib.hid hA
    clear hP hA
    go_wp2_with fail
    refine (HG.out _ _ HP.out).mono ?_
    rintro e w3 ⟨rfl, F', hH, hA⟩
    have HH := Lib.hid (And.intro hH (HA1.out.trans (HA.out.trans hA)))
    clear hH hA
    unfold faultE
    go_wp2_with fail
    exact ⟨rfl, rfl, F', HH.out.1, HH.out.2⟩
  | ok x s2 =>
    rw [hq] at hnf hGG
    have HG := Lib.hid fun W a1 hP => hGG W a1 hP trivial
    dsimp only at hnf ⊢
    cases hq2 : consG X.lim s s2 x (1, 0) with
    | err c m ob tb =>
      rw [hq2] at hnf
      have HC : Hid (∀ W a1 F1, PS X W a1 (op + 1) s2 F1 → Calls Tryz.prog 166 #[pptr X.p, wd x, wd (1, 0), .int .i64 (a : Int)] W (Out X W (op + 1) F1 retW (.err c m ob tb))) := fun W a1 F1 hP => by
        have := hP.cons (s0 := s) HX.out x (1, 0) a hpos.symm
        rw [hq2] at this
        exact this
      clear h h1 hM hA1 hB1 ho hnf hG hr hle hlen hGG hq hop hpos hz1 hz2 hq2
      go_enter Tryz.func168, Tryz.ntmps168
      go_wp2_with fail
      refine HO.out.mono ?_
      rintro e w2 ⟨rfl, hP, hA⟩
      have HP := Lib.hid hP
      have HA := Lib.hid hA
      clear hP hA
      go_wp2_with fail
      refine (HG.out _ _ HP.out).mono ?_
      rintro e w3 ⟨a3, F3, rfl, hP, hA⟩
      have HP3 := Lib.hid hP
      have HA3 := Lib.hid hA
      clear hP hA
      go_wp2_with fail
      refine (symbol_any 0 _).mono ?_
      rintro e w4 ⟨rfl, hb⟩
      have HP4 := Lib.hid (HP3.out.later hb)
      have HA4 := Lib.hid (HA3.out.then_below hb)
      clear hb
      go_wp2_with fail
      refine (HC.out _ _ _ HP4.out).mono ?_
      rintro e w5 ⟨rfl, F', hH, hA⟩
      have HH := Lib.hid (And.intro hH (HA1.out.trans (HA.out.trans (HA4.out.trans hA))))
      clear hH hA
      unfold faultE
      go_wp2_with fail
      exact ⟨rfl, rfl, F', HH.out.1, HH.out.2⟩
    | ok y s3 =>
      have HC : Hid (∀ W a1 F1, PS X W a1 (op + 1) s2 F1 → Calls Tryz.prog 166 #[pptr X.p, wd x, wd (1, 0), .int .i64 (a : Int)] W (Out X W (op + 1) F1 retW (.ok y s3))) := fun W a1 F1 hP => by
        have := hP.cons (s0 := s) HX.out x (1, 0) a hpos.symm
        rw [hq2] at this
        exact this
      dsimp only
      obtain ⟨Q, hQ⟩ : ∃ Q, consG X.lim s s3 (1, n) y = Q := ⟨_, rfl⟩
      have HC2 : Hid (∀ W a1 F1, PS X W a1 op s3 F1 → Calls Tryz.prog 166 #[pptr X.p, wd (1, n), wd y, .int .i64 (a : Int)] W (Out X W op F1 retW Q)) := fun W a1 F1 hP => by
        have := hP.cons (s0 := s) HX.out (1, n) y a hpos.symm
        rw [hQ] at this
        exact this
      rw [hQ]
      clear h h1 hM hA1 hB1 ho hnf hG hr hle hlen hGG hq hop hpos hq2 hQ
      go_enter Tryz.func168, Tryz.ntmps168
      go_wp2_with fail
      refine HO.out.mono ?_
      rintro e w2 ⟨rfl, hP, hA⟩
      have HP := Lib.hid hP
      have HA := Lib.hid hA
      clear hP hA
      go_wp2_with fail
      refine (HG.out _ _ HP.out).mono ?_
      rintro e w3 ⟨a3, F3, rfl, hP, hA⟩
      have HP3 := Lib.hid hP
      have HA3 := Lib.hid hA
      clear hP hA
      go_wp2_with fail
      refine (symbol_any 0 _).mono ?_
      rintro e w4 ⟨rfl, hb⟩
      have HP4 := Lib.hid (HP3.out.later hb)
      have HA4 := Lib.hid (HA3.out.then_below hb)
      clear hb
      go_wp2_with fail
      refine (HC.out _ _ _ HP4.out).mono ?_
      rintro e w5 ⟨a5, F5, rfl, hP, hA⟩
      have hAA : PAfter X w w5 F F5 := HA1.out.trans (HA.out.trans (HA4.out.trans hA))
      have hB5 := ((HA.out.trans (HA4.out.trans hA)).blk HB1.out HM.out.f HM.out.p)
      have hM5 : Mine X w F5 r := HM.out.later (HA.out.trans (HA4.out.trans hA)) HB1.out.lt
      have HM5 := Lib.hid hM5
      have hP6 := hP.alloc (.cells #[.int .i64 y.1, .int .i64 y.2] 28)
      have hN := hP6.nest HX.out op HOp.out (.int .i64 (((op + 1 : Nat) : Int) - 1)) (by rw [HZ.out])
      have hm8 := hP.mine (Nat.le_refl _)
      have hB8 := Blk.new w5 #[.int .i64 y.1, .int .i64 y.2] 28
      obtain ⟨b8, hb8⟩ : ∃ b, w5.heap.size = b := ⟨_, rfl⟩
      obtain ⟨W5, hW5⟩ : ∃ W, w5.alloc (.cells #[.int .i64 y.1, .int .i64 y.2] 28) = W := ⟨_, rfl⟩
      have hbw5 : Below w5.heap.size w5 W5 := by rw [← hW5]; exact bel_box _ _
      rw [hb8] at hB8 hm8
      rw [hW5] at hN hP6 hB8
      obtain ⟨W6, hW6⟩ : ∃ W, W5.setCell ⟨X.p, 4, none⟩ (.int .i64 (((op + 1 : Nat) : Int) - 1)) = W := ⟨_, rfl⟩
      rw [hW6] at hN
      obtain ⟨hP7, hA7⟩ := hN
      have hB8' := (hA7.blk hB8 hm8.f hm8.p).1
      have hBr := (hA7.blk (hB5.1.below hbw5) hB5.2 HM.out.p).1
      have hA8 := (hAA.then_below hbw5).trans hA7
      obtain ⟨_, _, _, _, c4, _⟩ := Blk.six hP6.blk
      have f4 := hP6.blk.free 4
      obtain ⟨z, hz⟩ : ∃ z : Int, ((op + 1 : Nat) : Int) = z := ⟨_, rfl⟩
      rw [hz] at c4 hz1 hz2 hW6
      have HP7 := Lib.hid hP7
      have HA8 := Lib.hid hA8
      have HB8 := Lib.hid hB8'
      have HBr := Lib.hid hBr
      clear hP hA hAA hB5 hP6 hm8 hB8 hbw5 hP7 hA7 hB8' hBr hA8 hM5
      go_wp2_with fail
      rw [HR.out]
      obtain ⟨t0, t1, _, _⟩ := HB8.out.two
      clear hW5 hb8 hz hW6 c4 f4 hz1 hz2
      cases Q with
      | err c m ob tb =>
        go_region_with (first
          | (go_at_call 194; refine (symbol_any n _).mono ?_; rintro e w7 ⟨rfl, hb0⟩; have hb := (bel_drew (w := W6)).trans hb0; clear hb0; have HBw := Lib.hid hb; obtain ⟨t2, t3, _, _⟩ := (HB8.out.below hb).two; clear hb)
          | (go_at_call 166; refine (HC2.out _ _ _ (HP7.out.later HBw.out)).mono ?_; rintro e w8 ⟨rfl, F8, hH, hA⟩; unfold faultE; have hp := (HA8.out.then_below HBw.out).trans hA; suffices _ : wpAny Tryz.prog .any #[] (fun _ _ _ => True) 0 #[] { tmps := #[], defers := [] } w8 from ⟨rfl, rfl, F8, hH, hp⟩))
        all_goals exact True.intro
      | ok v s4 =>
        go_region_with (first
          | (go_at_call 194; refine (symbol_any n _).mono ?_; rintro e w7 ⟨rfl, hb0⟩; have hb := (bel_drew (w := W6)).trans hb0; clear hb0; have HBw := Lib.hid hb; obtain ⟨t2, t3, _, _⟩ := (HB8.out.below hb).two; clear hb)
          | (go_at_call 166; refine (HC2.out _ _ _ (HP7.out.later HBw.out)).mono ?_; rintro e w8 ⟨a8, F8, rfl, hP, hA⟩; obtain ⟨g0, g1, g2, g3⟩ := (hA.blk (HBr.out.below HBw.out) HM5.out.f HM5.out.p).1.two; have HP8 := Lib.hid hP; have HA9 := Lib.hid hA; clear hP hA))
        all_goals (
          go_wp2_with fail
          have hf := HP8.out.put2 (HM5.out.later HA9.out (HBr.out.below HBw.out).lt) ((HA8.out.then_below HBw.out).trans HA9.out) (Nat.le_of_eq HR.out) (.int .i64 v.1) (.int .i64 v.2)
          refine bodyPost_ret (v := wd v) (by simp [results, Tryz.results168, go_sem, g0, g1, g2, g3]) rfl ⟨a8, F8, rfl, hf.1, hf.2⟩)
end Go.Proofs.YtlibdhnlmekmhaaGreatDoor.Rd
end

/- A row of words beside a parser. -/
section
namespace Go.Proofs.YtlibdhnlmekmhaaGreatDoor.Rd
set_option maxRecDepth 100000
open Go.RowKit
open Go.Proofs.YtlibdhnlmekmhaaGreatDoor.Own Go.Proofs.YtlibdhnlmekmhaaGreatDoor.Hp Go.Proofs.YtlibdhnlmekmhaaGreatDoor.Rep Go.Proofs.YtlibdhnlmekmhaaGreatDoor.Get Go.Proofs.YtlibdhnlmekmhaaGreatDoor.Add Go.Proofs.YtlibdhnlmekmhaaGreatDoor.Make Go.Proofs.YtlibdhnlmekmhaaGreatDoor.Utf Go.Proofs.YtlibdhnlmekmhaaGreatDoor.Strs Go.Proofs.YtlibdhnlmekmhaaGreatDoor.Clone

theorem wcells_app (a b : List Wd) : wcells (a ++ b) = wcells a ++ wcells b := by
  induction a with
  | nil => rfl
  | cons x a ih => simp [wcells, ih]
/-- Two cells of a word that was built. -/
theorem new_cells (w : World) (x y : Value) (t : TypeId) : ∀ j u, [x, y][j]? = some u → (w.alloc (.cells #[x, y] t)).cell? ((⟨w.heap.size, 0, none⟩ : Addr).add j) = some u := by
  intro j u hj
  have h := Blk.new w #[x, y] t
  rcases j with _ | _ | j
  · simp at hj; subst hj; exact h.cell 0 _ rfl
  · simp at hj; subst hj; exact h.cell 1 _ rfl
  · simp at hj
theorem new_one (a b : Int) : ∀ u ∈ [Value.int .i64 a, .int .i64 b], u.oneCell' = true := by
  intro u hu
  simp at hu
  rcases hu with rfl | rfl <;> rfl
/-- A parser, and a row of words that the call has made since w0. -/
structure PR (X : Fx) (w0 wr : World) (a op : Nat) (s : St) (F0 F : Nat → Prop) (v : Value) (l : List Wd) : Prop where
  ps : PS X wr a op s F
  aft : PAfter X w0 wr F0 F
  row : wr.ownsRow w0.heap.size 28 2 v l.length (wcells l)
  mine : ∀ g, v.ownBlock = some g → Mine X wr F g
theorem PR.start {X : Fx} {w0 : World} {a op : Nat} {s : St} {F : Nat → Prop} (h : PS X w0 a op s F) : PR X w0 w0 a op s F F (.slice none 0 0) [] :=
  ⟨h, .refl _ _ _, World.ownsRow_nil _ _ _ _, fun g hg => by cases hg⟩
theorem PR.later {X : Fx} {w0 wr W : World} {a op : Nat} {s : St} {F0 F : Nat → Prop} {v : Value} {l : List Wd} (h : PR X w0 wr a op s F0 F v l) (hb : Below wr.heap.size wr W) : PR X w0 W a op s F0 F v l :=
  ⟨h.ps.later hb, h.aft.then_below hb, owns_below h.row hb, fun g hg => ⟨(h.mine g hg).f, (h.mine g hg).p, (h.mine g hg).g, (h.mine g hg).m, (h.mine g hg).low⟩⟩
/-- A method that reads. -/
theorem PR.act {X : Fx} {w0 wr W : World} {a a' op op' : Nat} {s s' : St} {F0 F F' : Nat → Prop} {v : Value} {l : List Wd} (h : PR X w0 wr a op s F0 F v l) (hP : PS X W a' op' s' F') (hA : PAfter X wr W F F') : PR X w0 W a' op' s' F0 F' v l where
  ps := hP
  aft := h.aft.trans hA
  row := owns_keeps h.row hA.keeps fun g hg e => e.elim (h.mine g hg).f (h.mine g hg).p
  mine := fun g hg => by
    have := (h.mine g hg).later hA (h.row.lt g hg).2
    exact ⟨this.f, this.p, this.g, this.m, this.low⟩
theorem PR.push {X : Fx} {w0 wr w' : World} {a op c' : Nat} {s : St} {F0 F : Nat → Prop} {v : Value} {l : List Wd} {A' : Option Addr} {x : Wd} (h : PR X w0 wr a op s F0 F v l)
    (hap : Appended wr w' w0.heap.size 28 2 v (.slice A' (l.length + 1) c') (l.length + 1) (wcells l ++ [.int .i64 x.1, .int .i64 x.2])) : PR X w0 w' a op s F0 F (.slice A' (l.length + 1) c') (l ++ [x]) := by
  have hk : Keeps (fun b => v.ownBlock = some b) wr w' := (Keeps.refl _ wr).grown hap.grown fun k hk _ => hk
  refine ⟨h.ps.keeps hk fun b hb => ⟨(h.mine b hb).f, (h.mine b hb).p, (h.mine b hb).g, (h.mine b hb).m, (h.mine b hb).low⟩, ⟨h.aft.keeps.then hk fun b hlt e => by have := (h.row.lt b e).1; omega, h.aft.grow⟩, ?_, fun b hb => ?_⟩
  · have := hap.row
    rw [wcells_app, List.length_append]
    exact this
  · rcases hap.place b hb with e | e
    · exact ⟨(h.mine b e).f, (h.mine b e).p, (h.mine b e).g, (h.mine b e).m, (h.mine b e).low⟩
    · have := h.ps.mine (b := b) (by omega)
      exact ⟨this.f, this.p, this.g, this.m, this.low⟩
theorem PR.len {X : Fx} {w0 wr : World} {a op : Nat} {s : St} {F0 F : Nat → Prop} {v : Value} {l : List Wd} (h : PR X w0 wr a op s F0 F v l) : ∃ A c, v = .slice A l.length c := by
  rcases h.row.2 with ⟨rfl, h2⟩ | ⟨g, cap, cur, rfl, _⟩
  · exact ⟨none, 0, by rw [h2]⟩
  · exact ⟨_, _, rfl⟩

/-- Forms are read right where at most so much is looked at. -/
def FormOk (X : Fx) (k : Nat) : Prop := ∀ o N j, j ≤ k → 2 * N + 1 ≤ j → Runs X 68 o N retW (formM X.lim j o)
theorem eachM_skip (lim k o : Nat) (acc : List Wd) (s : St) : eachM lim k o acc ⟨skipF false s.rest, s.ob, s.tb⟩ = eachM lim k o acc s := by
  cases k with
  | zero => rfl
  | succ k => rw [eachM_succ]; unfold eachG; simp only [skipF_skipF]
theorem elemM_skip (lim k o : Nat) (acc : List Wd) (s : St) : elemM lim k o acc ⟨skipF false s.rest, s.ob, s.tb⟩ = elemM lim k o acc s := by
  cases k with
  | zero => rfl
  | succ k => rw [elemM_succ]; unfold elemG; simp only [skipF_skipF]
end Go.Proofs.YtlibdhnlmekmhaaGreatDoor.Rd
end
