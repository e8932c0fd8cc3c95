/- Between two rounds of list's loop. | The contract of list. | The contract of form. -/
import Derived.Outline
import Derived.Test.YtlibdhnlmekmhaaGreatDoorMh28
import Derived.Test.YtlibdhnlmekmhaaGreatDoorMh30
/- Between two rounds of list's loop. -/
section
namespace Go.Proofs.YtlibdhnlmekmhaaGreatDoor.Rd
set_option maxRecDepth 100000
open Go.RowKit
open Go.Proofs.YtlibdhnlmekmhaaGreatDoor.Own Go.Proofs.YtlibdhnlmekmhaaGreatDoor.Hp Go.Proofs.YtlibdhnlmekmhaaGreatDoor.Rep Go.Proofs.YtlibdhnlmekmhaaGreatDoor.Get Go.Proofs.YtlibdhnlmekmhaaGreatDoor.Add Go.Proofs.YtlibdhnlmekmhaaGreatDoor.Make
open Go.Proofs.YtlibdhnlmekmhaaGreatDoor.Nt hiding Wd

theorem HT.tpIn {w : World} {base hp lim tp : Nat} {ob : Obs} {tb : Tb} {F : Nat → Prop} (h : HT w base hp lim tp ob tb F) : F tp := by
  obtain ⟨lh, lt, PH, PT, hH, hT, hd, hF⟩ := h.is
  exact (hF tp).2 (.inr (by unfold TOf; rw [hT.hdr]; simp))
/-- What does not change in the loop. -/
structure LF (X : Fx) (w W0 : World) (n b3 b5 g Bs : Nat) : Prop where
  fw0 : X.w0.heap.size ≤ W0.heap.size
  fw : w.heap.size ≤ W0.heap.size
  fp : X.p < W0.heap.size
  fg : X.g < W0.heap.size
  fmb : X.mb < W0.heap.size
  ftp : X.tp < W0.heap.size
  fn1 : n + 1 < W0.heap.size
  f3 : b3 < W0.heap.size
  f5 : b5 < W0.heap.size
  fgg : g < W0.heap.size
  fbs : Bs < W0.heap.size
  flow : w.heap.size ≤ b5
  fne : n ≠ b5 ∧ n + 1 ≠ b5 ∧ b3 ≠ b5 ∧ g ≠ b5 ∧ Bs ≠ b5
def Six (n b3 b5 g Bs b : Nat) : Prop := b = n ∨ b = n + 1 ∨ b = b3 ∨ b = b5 ∨ b = g ∨ b = Bs
theorem LF.six {X : Fx} {w W0 : World} {n b3 b5 g Bs b : Nat} (h : LF X w W0 n b3 b5 g Bs) (hb : Six n b3 b5 g Bs b) : b < W0.heap.size := by
  have h1 := h.fn1; have h2 := h.f3; have h3 := h.f5; have h4 := h.fgg; have h5 := h.fbs
  rcases hb with rfl | rfl | rfl | rfl | rfl | rfl <;> omega
/-- The parser, the list's boxes, the conses so far. -/
structure LM (X : Fx) (w W0 W : World) (a4 op : Nat) (rest : List Int) (tb : Tb) (F : Nat → Prop) (n b3 b5 g Bs ast : Nat) (y : Wd) (ob : Obs) : Prop where
  st : ∃ F', PS X W a4 op ⟨rest, ob, tb⟩ F' ∧ PAfter X w W F F' ∧ (∀ b, F' b → ¬ NC W0.heap.size W b) ∧ ∀ b, Six n b3 b5 g Bs b → Mine X w F' b
  low : MapLow X.tp W0.heap.size W
  box1 : Blk W n #[pptr X.p] 87
  box2 : Blk W (n + 1) #[.int .i64 0, .int .i64 0] 28
  box3 : Blk W b3 #[.int .i64 (ast : Int)] 3
  box5 : Blk W b5 #[.int .i64 y.1, .int .i64 y.2] 28
  size : W0.heap.size ≤ W.heap.size

variable {X : Fx} {w W0 W W' : World} {a4 op n b3 b5 g Bs ast : Nat} {rest : List Int} {tb : Tb} {F : Nat → Prop} {y : Wd} {ob : Obs}
theorem LM.later (h : LM X w W0 W a4 op rest tb F n b3 b5 g Bs ast y ob) (hf : LF X w W0 n b3 b5 g Bs) (hb : Below W.heap.size W W') : LM X w W0 W' a4 op rest tb F n b3 b5 g Bs ast y ob := by
  obtain ⟨F', hP, hA, hN, hM⟩ := h.st
  have htp := Nat.lt_of_lt_of_le hf.ftp h.size
  refine ⟨⟨F', hP.later hb, hA.then_below hb, fun b hF ⟨h1, o, h2, h3⟩ => hN b hF ⟨h1, o, ?_, h3⟩, hM⟩, h.low.same (hb.block _ htp), h.box1.below hb, h.box2.below hb, h.box3.below hb, h.box5.below hb, Nat.le_trans h.size hb.size⟩
  rw [← hb.block b (hP.ht.lt hF).2]
  exact h2
/-- A block that is no cells is turned. -/
theorem LM.row {row : Option Nat} (h : LM X w W0 W a4 op rest tb F n b3 b5 g Bs ast y ob) (hf : LF X w W0 n b3 b5 g Bs) (hg : W.grownBy W' row) (hr : ∀ r, row = some r → W0.heap.size ≤ r ∧ ∃ o : Obj, W.heap[r]? = some o ∧ o.isCells = false) : LM X w W0 W' a4 op rest tb F n b3 b5 g Bs ast y ob := by
  obtain ⟨F', hP, hA, hN, hM⟩ := h.st
  have hk : Keeps (fun b => row = some b) W W' := (Keeps.refl _ _).grown hg fun k e _ => e
  have hlo : ∀ b, row = some b → W0.heap.size ≤ b := fun b e => (hr b e).1
  have hne : ∀ b, b < W0.heap.size → ¬ row = some b := fun b hb e => by have := hlo b e; omega
  have hnF : ∀ b, row = some b → ¬ F' b := fun b e hF => hN b hF (hr b e)
  have hw := hf.fw
  have hw0 := hf.fw0
  refine ⟨⟨F', hP.keeps hk fun b e => ⟨hnF b e, fun e2 => hne b (by rw [e2]; exact hf.fp) e, fun e2 => hne b (by rw [e2]; exact hf.fg) e, fun e2 => hne b (by rw [e2]; exact hf.fmb) e, by have := hlo b e; omega⟩,
    ⟨hA.keeps.then hk fun b hlt e => by have := hlo b e; omega, hA.grow⟩, fun b hF ⟨h1, o, h2, h3⟩ => hN b hF ⟨h1, o, ?_, h3⟩, hM⟩,
    h.low.same (hk.block _ (Nat.lt_of_lt_of_le hf.ftp h.size) (hne _ hf.ftp)), h.box1.keeps hk (hne _ (hf.six (.inl rfl))), h.box2.keeps hk (hne _ hf.fn1), h.box3.keeps hk (hne _ hf.f3), h.box5.keeps hk (hne _ hf.f5), Nat.le_trans h.size hk.size⟩
  rw [← hk.block b (hP.ht.lt hF).2 (fun e => hnF b e hF)]
  exact h2
theorem LM.own {β : Type} (hf : LF X w W0 n b3 b5 g Bs) (Y : β → Wd) (O : β → Obs) : OwnFrom W0.heap.size (fun (pre : β) W => LM X w W0 W a4 op rest tb F n b3 b5 g Bs ast (Y pre) (O pre)) := by
  intro pre W W' row h hg hr
  exact h.row hf hg hr
/-- A cons of the form before. -/
theorem LM.cons (h : LM X w W0 W a4 op rest tb F n b3 b5 g Bs ast y ob) (hX : X.Ok) (hf : LF X w W0 n b3 b5 g Bs) (x : Wd) {k : Nat} (hfit : Fits ob X.lim (k + 1)) (s0 : St) (hast : ast = X.l.length - s0.rest.length) :
    Calls Tryz.prog 166 #[pptr X.p, wd x, wd y, .int .i64 (ast : Int)] W fun e W' => e = .returned (wd (addO ob X.lim (.cons x y)).1) ∧
      LM X w W0 W' a4 op rest tb F n b3 b5 g Bs ast y (addO ob X.lim (.cons x y)).2.2 ∧ KeepB g Bs W W' ∧ KeepsFrom W0.heap.size W W' := by
  obtain ⟨F', hP, hA, hN, hM⟩ := h.st
  refine (hP.consK (s0 := s0) hX x y ast hast).mono ?_
  rintro e W' ⟨ho, ht⟩
  unfold consG at ho
  rw [if_pos (hfit.add x y).1] at ho
  obtain ⟨a', F1, he, hP1, hA1⟩ := ho
  have hlow : MapLow X.tp W0.heap.size W' := h.low.same ht
  have haa : a' = a4 := by have h1 := hP1.n; have h2 := hP.n; simp only at h1 h2; omega
  subst haa
  have hlt : ∀ b, Six n b3 b5 g Bs b → b < W.heap.size := fun b hb => Nat.lt_of_lt_of_le (hf.six hb) h.size
  have hs : ∀ b, Six n b3 b5 g Bs b → W'.heap[b]? = W.heap[b]? := fun b hb => hA1.keeps.block b (hlt b hb) fun e => e.elim (hM b hb).f (hM b hb).p
  have hb : ∀ b cs t, Six n b3 b5 g Bs b → Blk W b cs t → Blk W' b cs t := fun b cs t hb h => by unfold Blk at h ⊢; rw [hs b hb]; exact h
  refine ⟨he, ⟨⟨_, hP1.trim hlow, ⟨(hA.trans hA1).keeps, fun b hb => (hA.trans hA1).grow b hb.1⟩, fun b hb => hb.2, fun b hb => ?_⟩, hlow, hb _ _ _ (.inl rfl) h.box1, hb _ _ _ (.inr (.inl rfl)) h.box2, hb _ _ _ (.inr (.inr (.inl rfl))) h.box3, hb _ _ _ (.inr (.inr (.inr (.inl rfl)))) h.box5, Nat.le_trans h.size hA1.keeps.size⟩,
    ⟨hs g (.inr (.inr (.inr (.inr (.inl rfl))))), hs Bs (.inr (.inr (.inr (.inr (.inr rfl)))))⟩, ?_⟩
  · have := (hM b hb).later hA1 (hlt b hb)
    exact ⟨fun e => this.f e.1, this.p, this.g, this.m, this.low⟩
  · refine ⟨hA1.keeps.size, fun k o hk ho hc => ?_⟩
    have hk1 : k < W.heap.size := (Array.getElem?_eq_some_iff.1 ho).1
    rw [hA1.keeps.block k hk1 fun e => e.elim (fun e => hN k e ⟨hk, o, ho, hc⟩) fun e => by have := hf.fp; omega]
    exact ho
/-- The box of the list so far is written. -/
theorem LM.put (h : LM X w W0 W a4 op rest tb F n b3 b5 g Bs ast y ob) (hf : LF X w W0 n b3 b5 g Bs) (v : Wd) :
    LM X w W0 ((W.setCell ⟨b5, 0, none⟩ (.int .i64 v.1)).setCell ⟨b5, 1, none⟩ (.int .i64 v.2)) a4 op rest tb F n b3 b5 g Bs ast v ob := by
  obtain ⟨F', hP, hA, hN, hM⟩ := h.st
  have hk : Keeps (fun q => q = b5) W ((W.setCell ⟨b5, 0, none⟩ (.int .i64 v.1)).setCell ⟨b5, 1, none⟩ (.int .i64 v.2)) := (keeps_set W b5 0 _).trans (keeps_set _ b5 1 _)
  have hm := hM b5 (.inr (.inr (.inr (.inl rfl))))
  have hf' := hP.put2 hm hA hf.flow (.int .i64 v.1) (.int .i64 v.2)
  have hne := hf.fne
  have htp : X.tp ≠ b5 := fun e => by
    have h1 := h.low
    have h2 := hP.ht.tpIn
    rw [e] at h2
    exact hm.f h2
  refine ⟨⟨F', hf'.1, hf'.2, fun b hF ⟨h1, o, h2, h3⟩ => hN b hF ⟨h1, o, ?_, h3⟩, hM⟩, h.low.same (hk.block _ (Nat.lt_of_lt_of_le hf.ftp h.size) htp), h.box1.keeps hk hne.1, h.box2.keeps hk hne.2.1, h.box3.keeps hk hne.2.2.1, by simpa using (h.box5.set 0 (.int .i64 v.1)).set 1 (.int .i64 v.2), Nat.le_trans h.size hk.size⟩
  rw [← hk.block b (hP.ht.lt hF).2 (fun e => hm.f (by rw [← e]; exact hF))]
  exact h2
end Go.Proofs.YtlibdhnlmekmhaaGreatDoor.Rd
end

/- The contract of list. -/
section
namespace Go.Proofs.YtlibdhnlmekmhaaGreatDoor.Rd
open Go.RowKit Go.Maps Go.Lib Go.Shelf
open Go.Proofs.YtlibdhnlmekmhaaGreatDoor.Own Go.Proofs.YtlibdhnlmekmhaaGreatDoor.Hp Go.Proofs.YtlibdhnlmekmhaaGreatDoor.Rep Go.Proofs.YtlibdhnlmekmhaaGreatDoor.Get Go.Proofs.YtlibdhnlmekmhaaGreatDoor.Add Go.Proofs.YtlibdhnlmekmhaaGreatDoor.Make Go.Proofs.YtlibdhnlmekmhaaGreatDoor.Strs Go.Proofs.YtlibdhnlmekmhaaGreatDoor.Clone
open Go.Proofs.YtlibdhnlmekmhaaGreatDoor.Nt hiding Wd
set_option maxRecDepth 100000
attribute [local go_sem] Oper.semAt_some

abbrev pbox (p : Nat) : Obj := .cells #[pptr p] 87
/-- The beginning of list: two boxes. -/
structure Lb (X : Fx) (w w1 : World) (a op n : Nat) (s : St) (F : Nat → Prop) : Prop where
  hn : w.heap.size = n
  hw : (w.alloc (pbox X.p)).alloc wbox0 = w1
  ps : PS X w1 a op s F
  aft : PAfter X w w1 F F
  b1 : Blk w1 n #[pptr X.p] 87
  b2 : Blk w1 (n + 1) #[.int .i64 0, .int .i64 0] 28
  m1 : Mine X w F n
  m2 : Mine X w F (n + 1)
theorem Lb.mk' {X : Fx} {w : World} {a op : Nat} {s : St} {F : Nat → Prop} (h : PS X w a op s F) : ∃ w1 n, Lb X w w1 a op n s F := by
  have hb : Below w.heap.size w ((w.alloc (pbox X.p)).alloc wbox0) := ((Below.refl _ _).alloc (Nat.le_refl _) _).alloc (by simp) _
  refine ⟨_, _, rfl, rfl, h.later hb, .of_below hb, (Blk.new w _ _).below (bel_box _ _), ?_, h.mine (Nat.le_refl _), h.mine (Nat.le_succ _)⟩
  have := Blk.new (w.alloc (pbox X.p)) #[.int .i64 0, .int .i64 0] 28
  rwa [World.size_alloc] at this

theorem listE {X : Fx} {w : World} {a op : Nat} {s : St} {F : Nat → Prop} (h : PS X w a op s F) (hX : X.Ok) {c0 : Int} {t : List Int} (hr : s.rest = c0 :: t)
    {k : Nat} (hk : 2 * s.rest.length ≤ k) (hF : ∀ j, j < k → FormOk X j) {c : Int} {m : Nat} {ob : Obs} {tb : Tb} (hc : c ≠ 7) (hq : op = 200 ∧ Res.err c m ob tb = (.err 12 s.rest.length s.ob s.tb : Res Wd) ∨ op ≠ 200 ∧ elemM X.lim k (op + 1) [] ⟨t, s.ob, s.tb⟩ = .err c m ob tb) :
    Calls Tryz.prog 121 #[pptr X.p] w (Out X w op F retW (.err c m ob tb)) := by
  obtain ⟨w1, n, hL⟩ := Lb.mk' h
  have v1 := hL.b1.cell 0 _ rfl
  have hn := hL.hn
  have hw := hL.hw
  have HL := Lib.hid hL
  have HX := Lib.hid hX
  have hlen : s.rest.length = t.length + 1 := by rw [hr]; rfl
  rcases hq with ⟨ho, hq⟩ | ⟨ho, hq⟩
  · cases hq
    have HO := Lib.hid (hL.ps.openFull ho (1 : Int))
    clear h hX hr hk hF hL ho hlen hc
    go_enter Tryz.func121, Tryz.ntmps121
    go_wp2_with fail
    refine HO.out.mono ?_
    rintro e w2 ⟨rfl, rfl⟩
    unfold faultE
    go_wp2_with fail
    exact ⟨rfl, rfl, F, HL.out.ps.ht, HL.out.aft⟩
  · have HO := Lib.hid (hL.ps.open hX ho 1 (by omega))
    rw [show s.rest.drop 1 = t by rw [hr]; rfl] at HO
    have HE : Hid (∀ W, PS X W (a + 1) (op + 1) ⟨t, s.ob, s.tb⟩ F → Calls Tryz.prog 165 #[pptr X.p] W (Out X W (op + 1) F (retE X) (.err c m ob tb))) := fun W hP => by
      have := hP.elements hX (k := k) (by simp; omega) hF (by rw [hq]; exact hc)
      rw [hq] at this
      exact this
    clear h hX hr hk hF hL ho hlen hc hq
    go_enter Tryz.func121, Tryz.ntmps121
    go_wp2_with fail
    refine HO.out.mono ?_
    rintro e w2 ⟨rfl, hP, hA⟩
    have hbb := bel_box w2 (.cells #[.int .i64 (a : Int)] 3)
    have v2 := ((hA.blk HL.out.b1 HL.out.m1.f HL.out.m1.p).1.below hbb).cell 0 _ rfl
    have HP := Lib.hid (hP.later hbb)
    have HA := Lib.hid (HL.out.aft.trans (hA.then_below hbb))
    clear hP hA hbb v1
    go_wp2_with fail
    refine (HE.out _ HP.out).mono ?_
    rintro e w3 ⟨rfl, F', hH, hA⟩
    have HH := Lib.hid (And.intro hH (HA.out.trans hA))
    clear hH hA
    unfold faultE
    go_wp2_with fail
    exact ⟨rfl, rfl, F', HH.out.1, HH.out.2⟩

theorem wcells_get : ∀ (l : List Wd) (j : Nat), j < l.length → (wcells l)[j * 2]? = some (.int .i64 ((l[j]?).getD (0, 0)).1) ∧ (wcells l)[j * 2 + 1]? = some (.int .i64 ((l[j]?).getD (0, 0)).2)
  | [], _, h => by simp at h
  | x :: l, 0, _ => ⟨rfl, rfl⟩
  | x :: l, j + 1, h => by
    have := wcells_get l j (by simpa using h)
    rw [show (j + 1) * 2 = j * 2 + 1 + 1 by omega]
    simp only [wcells, List.getElem?_cons_succ]
    exact this
/-- The iterator over a row of words. -/
theorem els_stops {X : Fx} {W0 : World} {F : Nat → Prop} {A : Option Addr} {l : List Wd} {c Bs : Nat} (h : Els X W0 F (.slice A l.length c) l) (hl : l.length ≤ 1000000) (hBl : Bs < W0.heap.size) (hBs : W0.cell? ⟨Bs, 0, none⟩ = some (.slice A l.length c)) :
    ∃ g, g < W0.heap.size ∧ (g = Bs ∨ (Value.slice A l.length c).ownBlock = some g) ∧ SeqStopsK Fence.wide 2 Tryz.prog 185 #[ptr Bs] (fun j : Nat => #[.int .i64 (j : Int), wd ((l[j]?).getD (0, 0))]) (KeepB g Bs) (fun ys => ys = dn l.length 0) (fun _ => True) l.length W0 := by
  by_cases h0 : l = []
  · subst h0
    exact ⟨Bs, hBl, .inl rfl, back_stops_nil Fence.wide 2 trivial rfl Bs Bs c A _ W0 hBl hBs⟩
  · have hp : 0 < l.length := List.length_pos_iff.2 h0
    rcases h.row.2 with ⟨_, h2⟩ | ⟨g, cap, cur, hv, _, hg, hc1, hc2, hc3, hc4⟩
    · omega
    · have hr : Row W0 g (wcells l) := ⟨cur, _, hg, by rw [wcells_length]; have := Nat.mul_le_mul_right 2 hc1; omega, by rw [wcells_length]; exact hc4⟩
      injection hv with e1 e2 e3
      subst e1
      refine ⟨g, (Array.getElem?_eq_some_iff.1 hg).1, .inr rfl, back_stops Fence.wide 2 trivial rfl (by omega) Bs g 0 l.length c _ hl W0 hBl (Array.getElem?_eq_some_iff.1 hg).1 hBs fun W' hW j hj => ?_⟩
      have hr' : Row W' g (wcells l) := by
        obtain ⟨cur', t, h1, h2⟩ := hr
        exact ⟨cur', t, by rw [hW]; exact h1, h2⟩
      have := wcells_get l j hj
      rw [Nat.zero_add]
      exact ⟨hr'.cell _ _ this.1, hr'.cell _ _ this.2⟩

theorem keepsFrom_of {B b : Nat} {W W' : World} (h : Keeps (fun q => q = b) W W') (hb : b < B) : KeepsFrom B W W' :=
  ⟨h.size, fun k o hk ho _ => by rw [h.block k (Array.getElem?_eq_some_iff.1 ho).1 (fun e => by omega)]; exact ho⟩
theorem dn_map (l : List Wd) : (dn l.length 0).map (fun j => (l[j]?).getD ((0, 0) : Wd)) = l.reverse := by
  unfold dn
  rw [List.drop_zero, List.map_reverse]
  congr 1
  apply List.ext_getElem
  · simp
  · intro i h1 h2
    simp at h1 h2
    simp [h2]

set_option maxHeartbeats 8000000 in
theorem listO {X : Fx} {w : World} {a op : Nat} {s : St} {F : Nat → Prop} (h : PS X w a op s F) (hX : X.Ok) {c0 : Int} {t : List Int} (hr : s.rest = c0 :: t)
    {k : Nat} (hk : 2 * s.rest.length ≤ k) (hF : ∀ j, j < k → FormOk X j) (ho : op ≠ 200) {l : List Wd} {y : Wd} {s2 : St} (hq : elemM X.lim k (op + 1) [] ⟨t, s.ob, s.tb⟩ = .ok (l, y) s2) (hl : l.length ≤ 1000000) (hfit : Fits s2.ob X.lim l.length) :
    Calls Tryz.prog 121 #[pptr X.p] w (Out X w op F retW (.ok (foldC X.lim l.reverse y s2.ob).1 ⟨s2.rest, (foldC X.lim l.reverse y s2.ob).2, s2.tb⟩)) := by
  refine (callsIn_wide (n := 3)).1 ?_
  obtain ⟨w1, n, hL⟩ := Lb.mk' h
  have v1 := hL.b1.cell 0 _ rfl
  have hn := hL.hn
  have hw := hL.hw
  have hop := h.opl
  have hpos := h.pos
  have HL := Lib.hid hL
  have HX := Lib.hid hX
  have hlen : s.rest.length = t.length + 1 := by rw [hr]; rfl
  have HO := Lib.hid (hL.ps.open hX ho 1 (by omega))
  rw [show s.rest.drop 1 = t by rw [hr]; rfl] at HO
  have HE : Hid (∀ W, PS X W (a + 1) (op + 1) ⟨t, s.ob, s.tb⟩ F → Calls Tryz.prog 165 #[pptr X.p] W (Out X W (op + 1) F (retE X) (.ok (l, y) s2))) := fun W hP => by
    have := hP.elements hX (k := k) (by simp; omega) hF (by rw [hq]; trivial)
    rw [hq] at this
    exact this
  have HFit := Lib.hid hfit
  have HLn := Lib.hid hl
  have HOp := Lib.hid (show op ≤ 199 by omega)
  have HPo := Lib.hid hpos
  have HWs := Lib.hid (show X.w0.heap.size ≤ w.heap.size from h.below.size)
  clear h hX hr hk hF hL ho hlen hq hl hfit hop hpos
  refine callsIn_of_wp_marks Tryz.func121 rfl trivial ?_ rfl
  simp only [Tryz.ntmps121, List.size_toArray, List.length_cons, List.length_nil, Nat.reduceAdd, Nat.reduceSub, Array.replicate_succ, Array.replicate_zero, List.push_toArray, List.append_toArray, List.nil_append, List.cons_append]
  gi_wp2_with fail
  refine ⟨trivial, (callsIn_wide.2 HO.out).mono ?_⟩
  rintro e w2 ⟨rfl, hP, hA⟩
  have hm3 := hP.mine (Nat.le_refl _)
  have hbb := bel_box w2 (.cells #[.int .i64 (a : Int)] 3)
  have hb3 := Blk.new w2 #[.int .i64 (a : Int)] 3
  have hb1 := (hA.blk HL.out.b1 HL.out.m1.f HL.out.m1.p).1.below hbb
  have hb2 := (hA.blk HL.out.b2 HL.out.m2.f HL.out.m2.p).1.below hbb
  obtain ⟨W3, hW3⟩ : ∃ W, w2.alloc (.cells #[.int .i64 (a : Int)] 3) = W := ⟨_, rfl⟩
  obtain ⟨b3, hb3e⟩ : ∃ b, w2.heap.size = b := ⟨_, rfl⟩
  have HP3 := Lib.hid (hP.later hbb)
  have HA3 := Lib.hid (HL.out.aft.trans (hA.then_below hbb))
  rw [hb3e] at hm3 hb3
  rw [hW3] at HP3 HA3 hb1 hb2 hb3
  have v2 := hb1.cell 0 _ rfl
  have HB1 := Lib.hid hb1
  have HB2 := Lib.hid hb2
  have HB3 := Lib.hid hb3
  have HM1 := Lib.hid (HL.out.m1.later hA HL.out.b1.lt)
  have HM2 := Lib.hid (HL.out.m2.later hA HL.out.b2.lt)
  have HM3 := Lib.hid hm3
  clear hP hA hbb v1 hb1 hb2 hb3 hm3
  gi_wp2_with fail
  refine ⟨trivial, (callsIn_wide.2 (HE.out _ HP3.out)).mono ?_⟩
  rintro e w4 ⟨a4, F4, ⟨A, c, rfl, hEls⟩, hP, hA⟩
  have hm5 := hP.mine (Nat.le_refl _)
  have hmB := hP.mine (b := w4.heap.size + 1) (Nat.le_succ _)
  have hbb := ((Below.refl w4.heap.size w4).alloc (Nat.le_refl _) (.cells #[.int .i64 y.1, .int .i64 y.2] 28)).alloc (by simp) (.cells #[.slice A l.length c] 36)
  have hbz : ((w4.alloc (.cells #[.int .i64 y.1, .int .i64 y.2] 28)).alloc (.cells #[.slice A l.length c] 36)).heap.size = w4.heap.size + 1 + 1 := by simp
  have hb5 := (Blk.new w4 #[.int .i64 y.1, .int .i64 y.2] 28).below (bel_box _ (.cells #[.slice A l.length c] 36))
  have hbs := Blk.new (w4.alloc (.cells #[.int .i64 y.1, .int .i64 y.2] 28)) #[.slice A l.length c] 36
  rw [World.size_alloc] at hbs
  obtain ⟨b5, hb5e⟩ : ∃ b, w4.heap.size = b := ⟨_, rfl⟩
  have hz5 : (w4.alloc (.cells #[.int .i64 y.1, .int .i64 y.2] 28)).heap.size = b5 + 1 := by rw [World.size_alloc, hb5e]
  obtain ⟨W0, hW0⟩ : ∃ W, (w4.alloc (.cells #[.int .i64 y.1, .int .i64 y.2] 28)).alloc (.cells #[.slice A l.length c] 36) = W := ⟨_, rfl⟩
  have hb1 := (hA.blk HB1.out HM1.out.f HM1.out.p).1.below hbb
  have hb2 := (hA.blk HB2.out HM2.out.f HM2.out.p).1.below hbb
  have hb3 := (hA.blk HB3.out HM3.out.f HM3.out.p).1.below hbb
  have hm1 := HM1.out.later hA HB1.out.lt
  have hm2 := HM2.out.later hA HB2.out.lt
  have hm3 := HM3.out.later hA HB3.out.lt
  have HP0 := Lib.hid (hP.later hbb)
  have HA0 := Lib.hid (HA3.out.trans (hA.then_below hbb))
  have hel : Els X W0 F4 (.slice A l.length c) l := by
    rw [← hW0]
    exact ⟨owns_below hEls.row hbb, fun g hg => ⟨(hEls.mine g hg).f, (hEls.mine g hg).p, (hEls.mine g hg).g, (hEls.mine g hg).m, (hEls.mine g hg).low⟩⟩
  have hltR := fun g hg => (hEls.row.lt g hg).2
  rw [hb5e] at hm5 hb5 hbs hmB hbz hltR
  rw [hW0] at HP0 HA0 hb1 hb2 hb3 hb5 hbs hbz
  gi_wp2_with fail
  refine ⟨trivial, (backward_any _ _ trivial rfl _ _ _ _).mono ?_⟩
  rintro e w5 ⟨rfl, rfl⟩
  rw [hW0]
  gi_wp2_with fail
  obtain ⟨Bs, hBse⟩ : ∃ b, b5 + 1 = b := ⟨_, rfl⟩
  rw [hBse] at hmB hbs ⊢
  have hBs := hbs.cell 0 _ rfl
  have hBl : Bs < W0.heap.size := by omega
  obtain ⟨g, hgl, hgc, hst⟩ := els_stops hel HLn.out hBl hBs
  have hgm : Mine X w4 F4 g ∧ (g = Bs ∨ g < b5) := by
    rcases hgc with e | e
    · rw [e]; exact ⟨hmB, .inl rfl⟩
    · have := hel.mine g e
      exact ⟨⟨this.f, this.p, this.g, this.m, this.low⟩, .inr (hltR g e)⟩
  have hz0 : W0.heap.size = b5 + 1 + 1 := by omega
  have hwb5 : w.heap.size ≤ b5 := by
    have := HA3.out.keeps.size
    have := hA.keeps.size
    omega
  have hnb : n + 1 < W3.heap.size := HB2.out.lt
  have h3b : b3 < W3.heap.size := HB3.out.lt
  have hsz := hA.keeps.size
  have hP0 := HP0.out
  have HLF : Hid (LF X w W0 n b3 b5 g Bs) := by
    have e1 := hP.blk.lt
    have e2 := hP.row.lt
    have e3 := hP.map.lt
    have e4 := hP.ht.tpLt
    have e5 := HWs.out
    exact ⟨by omega, by omega, by omega, by omega, by omega, by omega, by omega, by omega, by omega, hgl, hBl, hwb5, by omega, by omega, by omega, by omega, by omega⟩
  have hlow0 : MapLow X.tp W0.heap.size W0 := hP0.ht.low (Nat.le_refl _)
  have hM0 : LM X w W0 W0 a4 (op + 1) s2.rest s2.tb F n b3 b5 g Bs a (foldC X.lim (([] : List Nat).map fun j => (l[j]?).getD (0, 0)) y s2.ob).1 (foldC X.lim (([] : List Nat).map fun j => (l[j]?).getD (0, 0)) y s2.ob).2 :=
    ⟨⟨_, hP0, HA0.out, fun b hb hnc => by have := (hP0.ht.lt hb).2; have := hnc.1; omega, fun b hb => by
      rcases hb with rfl | rfl | rfl | rfl | rfl | rfl
      · exact ⟨hm1.f, hm1.p, hm1.g, hm1.m, hm1.low⟩
      · exact ⟨hm2.f, hm2.p, hm2.g, hm2.m, hm2.low⟩
      · exact ⟨hm3.f, hm3.p, hm3.g, hm3.m, hm3.low⟩
      · exact ⟨hm5.f, hm5.p, hm5.g, hm5.m, hm5.low⟩
      · exact ⟨hgm.1.f, hgm.1.p, hgm.1.g, hgm.1.m, hgm.1.low⟩
      · exact ⟨hmB.f, hmB.p, hmB.g, hmB.m, hmB.low⟩⟩, hlow0, hb1, hb2, hb3, hb5, Nat.le_refl _⟩
  clear hBs hbs hel hgc hgm hz0 hwb5 hnb h3b hsz hP0 hlow0 hb1 hb2 hb3 hb5 hm1 hm2 hm3 hm5 hmB hltR hbb hbz hP hA hEls v2 hBse hz5
  refine wpIn_rangeFunc_ownH rfl (by omega) (gf := 185) (lb := #[ptr Bs]) rfl trivial (enters_of Tryz.func185 (by kernel_rfl) rfl)
    hst (fun h k => KeepB.t h k) (KeepB.b hgl hBl) (Below.refl _ _) (fun _ => rfl)
    (fun pre W => LM X w W0 W a4 (op + 1) s2.rest s2.tb F n b3 b5 g Bs a (foldC X.lim (pre.map fun j => (l[j]?).getD (0, 0)) y s2.ob).1 (foldC X.lim (pre.map fun j => (l[j]?).getD (0, 0)) y s2.ob).2)
    (fun _ _ _ => False)
    (LM.own HLF.out (fun pre : List Nat => (foldC X.lim (pre.map fun j => (l[j]?).getD (0, 0)) y s2.ob).1) fun pre => (foldC X.lim (pre.map fun j => (l[j]?).getD (0, 0)) y s2.ob).2) (fun _ _ _ _ _ hs _ _ => hs) hM0
    (fun j a' W => ∃ Bx : Nat, Blk W Bx #[.int .i64 ((l[j]?).getD (0, 0)).1, .int .i64 ((l[j]?).getD (0, 0)).2] 28 ∧ a' = { tmps := #[pptr X.p, Value.pointer (some { block := n, off := 0 }), Value.pointer (some { block := n + 1, off := 0 }), Value.pointer (some { block := b3, off := 0 }), Value.slice A l.length c, Value.pointer (some { block := b5, off := 0 }), undef, ptr Bx, pptr X.p, Value.int IntKind.i64 (a : Int), Value.tuple #[Value.slice A l.length c, wd y], pptr X.p, Value.tuple #[Value.slice A l.length c, wd y], Value.slice A l.length c, wd y, Value.slice A l.length c, Value.func (Fn.func 185) #[] #[ptr Bs], .int .i64 (j : Int), wd ((l[j]?).getD (0, 0)), undef, undef, undef, undef, undef, undef, undef, undef, undef, undef, undef, undef, undef], defers := [] })
    (fun j a' => ?ax) ?assign ?body ?done ?stop
  case ax =>
    rintro _ W W' row ⟨Bx, hb, e⟩ hg hr
    exact ⟨Bx, hb.keeps ((Keeps.refl (fun b => row = some b) W).grown hg fun k e _ => e) (fun e => by
      obtain ⟨_, o, ho, hc⟩ := hr Bx e
      rw [show W.heap[Bx]? = _ from hb] at ho
      cases ho
      cases hc), e⟩
  case assign =>
    intro l' pre j W K hM hK
    gi_wp2
    refine hK _ _ ((KeepsOthers.alloc _ _).from _) ?_ ?_ ⟨W.heap.size, Blk.new _ _ _, rfl⟩
    · exact ⟨Below.heap_alloc _ _ _ (Nat.lt_of_lt_of_le hgl hM.size), Below.heap_alloc _ _ _ (Nat.lt_of_lt_of_le hBl hM.size)⟩
    · exact hM.later HLF.out (bel_box _ _)
  case body =>
    rintro l' pre j a' W hl' ⟨r, hr⟩ hM ⟨Bx, hBx, rfl⟩ hlt
    obtain ⟨x, hx⟩ : ∃ x, (l[j]?).getD (0, 0) = x := ⟨_, rfl⟩
    rw [hx] at hBx ⊢
    have hfd := HFit.out
    rw [show l.length = (pre.map fun j => (l[j]?).getD ((0, 0) : Wd)).length + (l.length - pre.length - 1 + 1) by rw [List.length_map]; omega] at hfd
    have hfd2 := Fits.fold (w := y) hfd
    have happ := foldC_append X.lim (pre.map fun j => (l[j]?).getD ((0, 0) : Wd)) [x] y s2.ob
    rw [← hx, show (pre.map fun j => (l[j]?).getD ((0, 0) : Wd)) ++ [(l[j]?).getD (0, 0)] = (pre ++ [j]).map fun j => (l[j]?).getD ((0, 0) : Wd) by simp] at happ
    rw [hx] at happ
    obtain ⟨q1, hq1⟩ : ∃ q, foldC X.lim (pre.map fun j => (l[j]?).getD ((0, 0) : Wd)) y s2.ob = q := ⟨_, rfl⟩
    rw [hq1] at hM hfd2 happ
    have hc := hM.cons HX.out HLF.out x hfd2 s HPo.out.symm
    have v1 := hM.box1.cell 0 _ rfl
    have v3 := hM.box3.cell 0 _ rfl
    have v5 := hM.box5.cell 0 _ rfl
    have v6 := hM.box5.cell 1 _ rfl
    obtain ⟨x0, x1, _, _⟩ := hBx.two
    obtain ⟨v, hv⟩ : ∃ v, (addO q1.2 X.lim (.cons x q1.1)).1 = v := ⟨_, rfl⟩
    rw [hv] at hc
    have hap1 : foldC X.lim ((pre ++ [j]).map fun j => (l[j]?).getD ((0, 0) : Wd)) y s2.ob = (v, (addO q1.2 X.lim (.cons x q1.1)).2.2) := by rw [happ, ← hv]; rfl
    have HAp := Lib.hid hap1
    have HC := Lib.hid hc
    clear hM hBx hfd hfd2 happ hc hv hap1 hq1 hx
    gi_wp2_with (refine ⟨trivial, ?_⟩; gi_at_call 166; refine (CallsIn.inRound l' (callsIn_wide.2 HC.out)).mono ?_; rintro e w' ⟨rfl, hM1, hKb, hKf⟩; obtain ⟨t0, t1, t2, t3⟩ := hM1.box5.two)
    have hk5 : Keeps (fun q => q = b5) w' ((w'.setCell ⟨b5, 0, none⟩ (.int .i64 v.1)).setCell ⟨b5, 1, none⟩ (.int .i64 v.2)) := (keeps_set w' b5 0 _).trans (keeps_set _ b5 1 _)
    have hne := HLF.out.fne
    refine ⟨hKf.trans (keepsFrom_of hk5 HLF.out.f5), KeepB.t hKb ⟨hk5.block g (Nat.lt_of_lt_of_le hgl hM1.size) hne.2.2.2.1, hk5.block Bs (Nat.lt_of_lt_of_le hBl hM1.size) hne.2.2.2.2⟩, ?_⟩
    show LM X w W0 _ a4 (op + 1) s2.rest s2.tb F n b3 b5 g Bs a (foldC X.lim ((pre ++ [j]).map fun j => (l[j]?).getD ((0, 0) : Wd)) y s2.ob).1 (foldC X.lim ((pre ++ [j]).map fun j => (l[j]?).getD ((0, 0) : Wd)) y s2.ob).2
    rw [HAp.out]
    exact hM1.put HLF.out v
  case done =>
    rintro D ys W hD rfl hM hK
    rw [dn_map] at hM
    obtain ⟨q, hq⟩ : ∃ q, foldC X.lim l.reverse y s2.ob = q := ⟨_, rfl⟩
    have HQq := Lib.hid hq
    rw [hq] at hM
    obtain ⟨F', hP, hA, hN, hMi⟩ := hM.st
    have hm2 := hMi (n + 1) (.inr (.inl rfl))
    have hNe := hP.nest HX.out op (by have := HOp.out; omega) (.int .i64 (((op + 1 : Nat) : Int) - 1)) (by simp)
    obtain ⟨_, _, _, _, c4, _⟩ := Blk.six hP.blk
    have f4 := hP.blk.free 4
    have hDF : ¬ F' D := fun e => hN D e ⟨hD, _, hK, rfl⟩
    have hb2 := (hNe.2.blk hM.box2 hm2.f hm2.p).1
    have hm5 := hMi b5 (.inr (.inr (.inr (.inl rfl))))
    have hb5 := (hNe.2.blk hM.box5 hm5.f hm5.p).1
    have v1 := hM.box1.cell 0 _ rfl
    obtain ⟨W6, hW6⟩ : ∃ W6, W.setCell ⟨X.p, 4, none⟩ (.int .i64 (((op + 1 : Nat) : Int) - 1)) = W6 := ⟨_, rfl⟩
    rw [hW6] at hNe hb2 hb5
    obtain ⟨g0, g1, g2, g3⟩ := hb2.two
    obtain ⟨t0, t1, _, _⟩ := hb5.two
    have hf := hNe.1.put2 ⟨hm2.f, hm2.p, hm2.g, hm2.m, hm2.low⟩ (hA.trans hNe.2) (show w.heap.size ≤ n + 1 by omega) (.int .i64 q.1.1) (.int .i64 q.1.2)
    have hbf : Blk ((W6.setCell ⟨n + 1, 0, none⟩ (.int .i64 q.1.1)).setCell ⟨n + 1, 1, none⟩ (.int .i64 q.1.2)) (n + 1) #[.int .i64 q.1.1, .int .i64 q.1.2] 28 := by simpa using (hb2.set 0 (.int .i64 q.1.1)).set 1 (.int .i64 q.1.2)
    have hDl : D < W.heap.size := (Array.getElem?_eq_some_iff.1 hK).1
    have hk7 : Keeps (fun b => b = X.p ∨ b = n + 1) W ((W6.setCell ⟨n + 1, 0, none⟩ (.int .i64 q.1.1)).setCell ⟨n + 1, 1, none⟩ (.int .i64 q.1.2)) := by
      rw [← hW6]
      exact (((keeps_set W X.p 4 _).mono fun b _ e => .inl e).trans ((keeps_set _ (n + 1) 0 _).mono fun b _ e => .inr e)).trans ((keeps_set _ (n + 1) 1 _).mono fun b _ e => .inr e)
    have hKD := (hk7.block D hDl (fun e => by have h1 := HLF.out.fp; have h2 := HLF.out.fn1; rcases e with e | e <;> omega)).trans hK
    obtain ⟨W8, hW8⟩ : ∃ W8, (W6.setCell ⟨n + 1, 0, none⟩ (.int .i64 q.1.1)).setCell ⟨n + 1, 1, none⟩ (.int .i64 q.1.2) = W8 := ⟨_, rfl⟩
    rw [hW8] at hf hbf hKD
    have hkD : Keeps (fun b => b = D) W8 (W8.putObj D (.deferred none)) := (Keeps.refl (fun b => b = D) _).grown (grownBy_putObj' _ D _) fun k e _ => by cases e; rfl
    have hDn : D ≠ n + 1 := by have := HLF.out.fn1; omega
    have hbg := hbf.keeps hkD (fun e => hDn e.symm)
    obtain ⟨r0, r1, _, _⟩ := hbg.two
    have hPf := hf.1.keeps hkD fun b e => by
      have h1 := HLF.out.fp
      have h2 := HLF.out.fg
      have h3 := HLF.out.fmb
      have h4 := HLF.out.fw0
      rw [e]
      exact ⟨hDF, by omega, by omega, by omega, by omega⟩
    have hAf : PAfter X w (W8.putObj D (.deferred none)) F F' := ⟨hf.2.keeps.then hkD fun b hlt e => by have := HLF.out.fw; omega, hf.2.grow⟩
    have HPf := Lib.hid (And.intro hPf hAf)
    have HKD := Lib.hid hKD
    obtain ⟨z, hz⟩ : ∃ z : Int, ((op + 1 : Nat) : Int) = z := ⟨_, rfl⟩
    have hz1 : 1 ≤ z := by omega
    have hz2 : z ≤ 200 := by have := HOp.out; omega
    rw [hz] at c4 hW6
    clear hP hA hN hMi hm2 hNe hDF hb2 hm5 hb5 hf hbf hDl hk7 hKD hkD hDn hbg hPf hAf hz hM hK hq hM0 hst
    gi_wp2
    rw [HQq.out]
    refine ⟨by simp, .inl ⟨_, _, rfl, run_takeDeferred HKD.out, ?_⟩⟩
    exact ⟨wd q.1, by simp [results, Tryz.results121, go_sem, r0, r1], a4, F', rfl, HPf.out.1, HPf.out.2⟩
  case stop =>
    rintro D c pre W _ _ h
    exact h.elim
end Go.Proofs.YtlibdhnlmekmhaaGreatDoor.Rd
end

/- The contract of form. -/
section
namespace Go.Proofs.YtlibdhnlmekmhaaGreatDoor.Rd
set_option maxRecDepth 100000
open Go.RowKit Go.Maps
open Go.Proofs.YtlibdhnlmekmhaaGreatDoor.Own Go.Proofs.YtlibdhnlmekmhaaGreatDoor.Hp Go.Proofs.YtlibdhnlmekmhaaGreatDoor.Rep Go.Proofs.YtlibdhnlmekmhaaGreatDoor.Get Go.Proofs.YtlibdhnlmekmhaaGreatDoor.Add Go.Proofs.YtlibdhnlmekmhaaGreatDoor.Make Go.Proofs.YtlibdhnlmekmhaaGreatDoor.Utf Go.Proofs.YtlibdhnlmekmhaaGreatDoor.Strs
open Go.Proofs.YtlibdhnlmekmhaaGreatDoor.Nt hiding Wd

/-- 'v, ok := m[x]'. -/
theorem map_ok {w : World} {b : Nat} {F : Int → Option Value} (h : Mp.MapOf w b F) {x : Int} (hx : Mp.Wf x) :
    (Instr.lookup 89 (.map (some b)) (.int .i64 x) true).run Tryz.prog w = .ok (.tuple #[(F x).getD .nilFunc, .bool (F x).isSome]) w := by
  obtain ⟨D, ks, ho, _, _, _, h1, h2, _⟩ := h
  obtain ⟨v, ps, hrun, hv⟩ := ho.look_ok Mp.law Mp.mapT (Mp.zeroT w) (zd := .held .nilFunc) (zp := []) rfl hx.key
  rw [h2 x .nilFunc] at hv
  simp only [Mp.heldR, Option.some.injEq, Prod.mk.injEq, DataW.held.injEq] at hv
  rw [hrun, hv.1, h1]

theorem form_end {X : Fx} {w : World} {a op : Nat} {s : St} {F : Nat → Prop} (h : PS X w a op s F) (hX : X.Ok) (hsk : skipF false s.rest = []) :
    Calls Tryz.prog 68 #[pptr X.p] w (Out X w op F retW (.err 5 0 s.ob s.tb)) := by
  have h1 := h.alloc wbox0
  have HS := Lib.hid (h1.skip hX)
  have HX := Lib.hid hX
  have HSk := Lib.hid hsk
  have HA1 : Hid (PAfter X w (w.alloc wbox0) F F) := .of_below (bel_box _ _)
  clear h h1 hX hsk
  go_enter Tryz.func68, Tryz.ntmps68
  go_wp2_with fail
  refine HS.out.mono ?_
  rintro e w3 ⟨rfl, a3, q, hP, hA, rfl⟩
  rw [HSk.out] at hP
  have HNx := Lib.hid (hP.next HX.out)
  have hpos := hP.pos
  obtain ⟨_, _, _, c3, _, _⟩ := Blk.six hP.blk
  have HP := Lib.hid hP
  have HA := Lib.hid (HA1.out.trans hA)
  have HPo := Lib.hid hpos
  dsimp only [nx] at HNx
  clear hP hA hpos
  go_wp2_with (first
    | (go_at_call 67; refine HNx.out.mono ?_; rintro e w' ⟨rfl, rfl⟩))
  refine ⟨rfl, ?_, F, HP.out.ht, HA.out⟩
  have := HPo.out
  simp only [List.length_nil] at this
  rw [this]
  rfl
theorem form_token {X : Fx} {w : World} {a op : Nat} {s : St} {F : Nat → Prop} (h : PS X w a op s F) (hX : X.Ok) {c : Int} {r : List Int} (hsk : skipF false s.rest = c :: r) (hfn : rdF c = none) {Q : Res Wd}
    (hH : ∀ W a1, PS X W a1 op ⟨c :: r, s.ob, s.tb⟩ F → Calls Tryz.prog 132 #[pptr X.p] W (Out X W op F retW Q)) :
    Calls Tryz.prog 68 #[pptr X.p] w (Out X w op F retW Q) := by
  have h1 := h.alloc wbox0
  have HS := Lib.hid (h1.skip hX)
  have HX := Lib.hid hX
  have HSk := Lib.hid hsk
  have HA1 : Hid (PAfter X w (w.alloc wbox0) F F) := .of_below (bel_box _ _)
  have hM := h.mine (Nat.le_refl _)
  obtain ⟨b, hb⟩ : ∃ b, w.heap.size = b := ⟨_, rfl⟩
  have HB1 : Hid (Blk (w.alloc wbox0) b #[.int .i64 0, .int .i64 0] 28) := by
    show Blk _ _ _ _
    rw [← hb]; exact Blk.new w _ _
  rw [hb] at hM
  have HM := Lib.hid hM
  have HR := Lib.hid hb
  have HH := Lib.hid hH
  have HFn := Lib.hid hfn
  clear h h1 hX hsk hM hb hH hfn
  go_enter Tryz.func68, Tryz.ntmps68
  go_wp2_with fail
  rw [HR.out]
  refine HS.out.mono ?_
  rintro e w3 ⟨rfl, a3, q, hP, hA, rfl⟩
  rw [HSk.out] at hP
  have HNx := Lib.hid (hP.next HX.out)
  have hcc : isC c := HX.out.chars c (List.mem_of_mem_drop (by rw [hP.at_]; simp))
  have hlk := map_ok hP.map (x := c) ⟨by have := hcc.1; omega, by have := hcc.2.1; omega⟩
  rw [HFn.out] at hlk
  simp only [Option.getD_none, Option.isSome_none] at hlk
  have n1 : (c == -1) = false := by have := hcc.1; simp; omega
  obtain ⟨_, _, _, _, _, c5⟩ := Blk.six hP.blk
  have HT := Lib.hid (HH.out _ _ hP)
  have HA := Lib.hid (HA1.out.trans hA)
  have HM3 := Lib.hid (HM.out.later hA HB1.out.lt)
  have HB3 := Lib.hid (hA.blk HB1.out HM.out.f HM.out.p).1
  dsimp only [nx] at HNx
  clear hP hA hcc
  go_wp2_with (first
    | (go_at_call 67; refine HNx.out.mono ?_; rintro e w' ⟨rfl, rfl⟩))
  refine HT.out.mono ?_
  intro e w4 ho
  rcases ho.tail HA.out HM3.out (Nat.le_of_eq HR.out) HB3.out with ⟨x, rfl, hB4, hO⟩ | ⟨cc, kk, rfl, hO⟩
  · obtain ⟨b0, b1, e0, e1⟩ := hB4.two
    have HO := Lib.hid hO
    clear hO hB4 ho hlk
    go_wp2_with fail
    exact bodyPost_ret (v := wd x) (by simp [results, Tryz.results68, go_sem, b0, b1]) rfl HO.out
  · have HO := Lib.hid hO
    clear hO ho hlk
    go_wp2_with fail
    exact ⟨rfl, HO.out⟩
theorem form_fn {X : Fx} {w : World} {a op : Nat} {s : St} {F : Nat → Prop} (h : PS X w a op s F) (hX : X.Ok) {c : Int} {r : List Int} (hsk : skipF false s.rest = c :: r) {fn : FuncId} (hfn : rdF c = some (fnv fn)) (hen : ∀ args w, (callFunc fn args).run Tryz.prog w = .ok (.enter fn args) w) {Q : Res Wd}
    (hH : ∀ W a1, PS X W a1 op ⟨c :: r, s.ob, s.tb⟩ F → Calls Tryz.prog fn #[pptr X.p] W (Out X W op F retW Q)) :
    Calls Tryz.prog 68 #[pptr X.p] w (Out X w op F retW Q) := by
  have h1 := h.alloc wbox0
  have HS := Lib.hid (h1.skip hX)
  have HX := Lib.hid hX
  have HSk := Lib.hid hsk
  have HA1 : Hid (PAfter X w (w.alloc wbox0) F F) := .of_below (bel_box _ _)
  have hM := h.mine (Nat.le_refl _)
  obtain ⟨b, hb⟩ : ∃ b, w.heap.size = b := ⟨_, rfl⟩
  have HB1 : Hid (Blk (w.alloc wbox0) b #[.int .i64 0, .int .i64 0] 28) := by
    show Blk _ _ _ _
    rw [← hb]; exact Blk.new w _ _
  rw [hb] at hM
  have HM := Lib.hid hM
  have HR := Lib.hid hb
  have HH := Lib.hid hH
  have HFn := Lib.hid hfn
  clear h h1 hX hsk hM hb hH hfn
  go_enter Tryz.func68, Tryz.ntmps68
  go_wp2_with fail
  rw [HR.out]
  refine HS.out.mono ?_
  rintro e w3 ⟨rfl, a3, q, hP, hA, rfl⟩
  rw [HSk.out] at hP
  have HNx := Lib.hid (hP.next HX.out)
  have hcc : isC c := HX.out.chars c (List.mem_of_mem_drop (by rw [hP.at_]; simp))
  have hlk := map_ok hP.map (x := c) ⟨by have := hcc.1; omega, by have := hcc.2.1; omega⟩
  rw [HFn.out] at hlk
  simp only [Option.getD_some, Option.isSome_some] at hlk
  have n1 : (c == -1) = false := by have := hcc.1; simp; omega
  obtain ⟨_, _, _, _, _, c5⟩ := Blk.six hP.blk
  have HT := Lib.hid (HH.out _ _ hP)
  have HA := Lib.hid (HA1.out.trans hA)
  have HM3 := Lib.hid (HM.out.later hA HB1.out.lt)
  have HB3 := Lib.hid (hA.blk HB1.out HM.out.f HM.out.p).1
  dsimp only [nx] at HNx
  clear hP hA hcc
  go_wp2_with (first
    | (go_at_call 67; refine HNx.out.mono ?_; rintro e w' ⟨rfl, rfl⟩))
  refine HT.out.mono ?_
  intro e w4 ho
  rcases ho.tail HA.out HM3.out (Nat.le_of_eq HR.out) HB3.out with ⟨x, rfl, hB4, hO⟩ | ⟨cc, kk, rfl, hO⟩
  · obtain ⟨b0, b1, e0, e1⟩ := hB4.two
    have HO := Lib.hid hO
    clear hO hB4 ho hlk
    go_wp2_with fail
    exact bodyPost_ret (v := wd x) (by simp [results, Tryz.results68, go_sem, b0, b1]) rfl HO.out
  · have HO := Lib.hid hO
    clear hO ho hlk
    go_wp2_with fail
    exact ⟨rfl, HO.out⟩
end Go.Proofs.YtlibdhnlmekmhaaGreatDoor.Rd
end
