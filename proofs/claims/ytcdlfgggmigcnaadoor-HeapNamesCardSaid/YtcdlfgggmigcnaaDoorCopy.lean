/- The contract of Copy. -/
import Derived.Test.YtcdlfgggmigcnaaDoorDup
import Derived.Test.YtcdlfgggmigcnaaDoorNums2
import Derived.Test.YtcdlfgggmigcnaaDoorPlace
import Derived.Test.YtcdlfgggmigcnaaDoorQuick
import Derived.Laws.OwnMore
import Derived.Deep.RegionLaw
namespace Go
variable {P : Program}
/-- What an append takes its elements from: nil, or cells. -/
def SrcIs (w : World) (xv : Value) (m : Nat) (news : List Value) (size : Nat) : Prop :=
  news.length = m * size ∧ ((xv = .slice none 0 0 ∧ m = 0) ∨ ∃ ad c, xv = .slice (some ad) m c ∧ ∀ j u, news[j]? = some u → w.cell? (ad.add j) = some u)
theorem SrcIs.of_owns {w : World} {base : Nat} {e : TypeId} {size : Nat} {v : Value} {n : Nat} {xs : List Value} (h : w.ownsRow base e size v n xs) : SrcIs w v n xs size := by
  refine ⟨h.1, ?_⟩
  rcases h.2 with ⟨hv, hn⟩ | ⟨g, cap, cur, hv, _⟩
  · exact .inl ⟨hv, hn⟩
  · refine .inr ⟨⟨g, 0, none⟩, cap, hv, fun j u hj => ?_⟩
    exact h.cells (g := g) (by rw [hv]; rfl) j u hj
/-- append of such a source onto a row of the call's own, as one step of a region that draws. -/
theorem step_append_src {ops : Array Oper} {o : Oper} {a : Act} {w : World} {K : Act → World → Prop} {Q : Exit → Act → World → Prop} {E : Prop}
    (hg : o.guard = none) (s x : Operand) (t : TypeId) (hop : o.op = Op.call { callee := Callee.builtin Builtin.append, args := #[s, x], argTypes := #[t, t] })
    (base : Nat) (e : TypeId) (i : TypeInfo) (z : Value) (size bytes : Nat) (ht : P.underlying t = some (.slice e)) (hi : P.info? e = some i) (hz : i.zero = some z)
    (hsize : i.size = size) (hby : i.bytes = bytes) (hzs : z.cells.size = size) (hsz : 0 < size)
    (v : Value) (n : Nat) (xs : List Value) (hs : a.eval s = v) (hown : w.ownsRow base e size v n xs)
    (xv : Value) (m : Nat) (news : List Value) (hx : a.eval x = xv) (hsrc : SrcIs w xv m news size) (h1 : ∀ u ∈ news, u.oneCell' = true)
    (h63 : n + m ≤ maxLen) (hbytes : (n + m) * bytes ≤ 140737488355328) (hbase : base ≤ w.heap.size)
    (hK : ∀ A' c' w', Appended w w' base e size v (.slice A' (n + m) c') (n + m) (xs ++ news) → K (a.put o.dst (.slice A' (n + m) c')) w') :
    if Region.wanted o (yielded ops a.tmps) = true then Oper.wp P o a w K Q else E := by
  have hw : Region.wanted o (yielded ops a.tmps) = true := by simp [Region.wanted, hg]
  rw [if_pos hw]
  obtain ⟨hl, hsrc⟩ := hsrc
  obtain ⟨v', w', hrun, hap⟩ : ∃ v' w', (Builtin.append_ #[t, t] o.type #[v, xv]).run P w = .ok v' w' ∧ Appended w w' base e size v v' (n + m) (xs ++ news) := by
    rcases hsrc with ⟨rfl, rfl⟩ | ⟨ad, c, rfl, hc⟩
    · have hrun := run_append_owned_none (P := P) (w := w) base t o.type e i size ht hi v n xs hown
      obtain rfl : news = [] := List.length_eq_zero_iff.1 (by simpa using hl)
      exact ⟨v, w, hrun, by simpa using hown, ⟨rfl, rfl, rfl, Nat.le_refl _, fun _ _ _ => rfl⟩, fun b hb => .inl hb⟩
    · obtain ⟨v', w', hrun, h2, h3, h4⟩ := run_append_place (P := P) w base t o.type e i z size bytes ht hi hz hsize hby hzs hsz v n xs hown ad m c news hl hc h1 h63 hbytes hbase
      exact ⟨v', w', hrun, h2, h3, h4⟩
  unfold Oper.wp
  simp only [execOp, hop, resolve, invoke, builtin, Sem.run_bind, Sem.run_pure, Result.andThen_ok, List.map_toArray, List.map_cons, List.map_nil, hs, hx, hrun]
  obtain ⟨A', c', rfl⟩ := slice_of' hap.row
  exact hK A' c' w' hap
end Go
namespace Go.Proofs.YtcdlfgggmigcnaaDoor.Dup
set_option maxRecDepth 100000
open Go.RowKit
open Go.Proofs.YtcdlfgggmigcnaaDoor.Own Go.Proofs.YtcdlfgggmigcnaaDoor.Hp Go.Proofs.YtcdlfgggmigcnaaDoor.HeapOrd Go.Proofs.YtcdlfgggmigcnaaDoor.Rep Go.Proofs.YtcdlfgggmigcnaaDoor.Base Go.Proofs.YtcdlfgggmigcnaaDoor.Get Go.Proofs.YtcdlfgggmigcnaaDoor.Size Go.Proofs.YtcdlfgggmigcnaaDoor.Add Go.Proofs.YtcdlfgggmigcnaaDoor.Clone Go.Proofs.YtcdlfgggmigcnaaDoor.Make Go.Proofs.YtcdlfgggmigcnaaDoor.CloneC Go.Proofs.YtcdlfgggmigcnaaDoor.Nums Go.Proofs.YtcdlfgggmigcnaaDoor.Place Go.Proofs.YtcdlfgggmigcnaaDoor.Quick

theorem DupOk.none {w W : World} {n : Nat} {v : Value} (h : DupOk w W n v none) : v = .nilIface := by
  obtain ⟨_, _, h⟩ := h
  exact h
theorem DupOk.some {w W : World} {n : Nat} {v : Value} {o : Ob} (h : DupOk w W n v (some o)) : ∃ t p, v = .iface t p := by
  obtain ⟨_, _, h⟩ := h
  exact Add.some_iface h
theorem DupOk.undrew {w W : World} {n : Nat} {v : Value} {o : Option Ob} (h : DupOk w.drew W n v o) : DupOk w W n v o := by
  obtain ⟨l, h1, h2⟩ := h
  exact ⟨l, ⟨h1.inb, h1.for_⟩, h2⟩
/-- A copy that is under way: its first k objects are there. -/
structure CopyIs (w wr : World) (cp lim : Nat) (ob : Obs) (nf : Nat) (f : Nat → Nat) (u : Value) (lab : Nat → Option Lab) (ov fv : Value) (k : Nat) (vals : List Value) : Prop where
  below : Below w.heap.size w wr
  inb : ∀ b l, lab b = some l → w.heap.size ≤ b ∧ b < wr.heap.size
  hdr : lab cp = some .hdr
  blk : Blk wr cp #[.int .i64 (lim : Int), ov, fv, u] 106
  objs : wr.ownsRow w.heap.size 117 1 ov k vals
  olab : ∀ b, ov.ownBlock = some b → lab b = some .objs
  each : ∀ i, i < k → ∃ v, vals[i]? = some v ∧ ObAt wr lab i v (ob i)
  free : wr.ownsRow w.heap.size 3 1 fv nf (fcells nf f)
  flab : ∀ b, fv.ownBlock = some b → lab b = some .free

theorem CopyIs.done {w wr : World} {base hp cp lim : Nat} {ob : Obs} {lab0 lab : Nat → Option Lab} {P : Parts} {ov fv : Value} {vals : List Value} (h0 : HeapIs w base hp lim ob lab0 P) (h : CopyIs w wr cp lim ob P.nf P.f (.int .i64 (usedTo ob lim : Int)) lab ov fv P.m vals) :
    HeapIs wr w.heap.size cp lim ob lab { P with ov := ov, fv := fv, vals := vals } :=
  { lim1 := h0.lim1, lim2 := h0.lim2, inb := h.inb, hdr := h.hdr, blk := h.blk, m := h0.m, out := h0.out, used := h0.used, objs := h.objs, olab := h.olab, each := h.each, small := h0.small, free := h.free, flab := h.flab, ord := h0.ord, inj := h0.inj, holes := h0.holes }

theorem CopyIs.push {w wr w2 W w3 : World} {cp lim nf k c' : Nat} {ob : Obs} {f : Nat → Nat} {u ov fv v : Value} {A' : Option Addr} {lab : Nat → Option Lab} {vals : List Value} {o : Obj} (h : CopyIs w wr cp lim ob nf f u lab ov fv k vals)
    (hb2 : Below wr.heap.size wr w2) (hd : DupOk wr w2 k v (ob k)) (hW : Below w2.heap.size w2 W) (hap : Appended (W.alloc o) w3 w.heap.size 117 1 ov (.slice A' (k + 1) c') (k + 1) (vals ++ [v])) :
    ∃ lab', CopyIs w (w3.setCell ⟨cp, 1, none⟩ (.slice A' (k + 1) c')) cp lim ob nf f u lab' (.slice A' (k + 1) c') fv (k + 1) (vals ++ [v]) := by
  obtain ⟨labO, hf, ho⟩ := hd
  have hk3 := keeps_push (w := W) (o := o) hap.grown rfl rfl rfl rfl
  have hcp := h.blk.lt
  have hne : ∀ b l, lab b = some l → l ≠ .objs → ov.ownBlock ≠ some b := fun b l hb hl e => by
    have := h.olab b e; rw [hb] at this; cases this; exact hl rfl
  have hovlt : ∀ b, ov.ownBlock = some b → w.heap.size ≤ b ∧ b < wr.heap.size := fun b e => h.objs.lt b e
  have hk4 : Keeps (fun b => b = cp ∨ ov.ownBlock = some b) W (w3.setCell ⟨cp, 1, none⟩ (.slice A' (k + 1) c')) := (hk3.mono (fun b _ e => .inr e)).setCell _ _ fun _ => .inl rfl
  have hkW : Keeps (fun b => b = cp ∨ ov.ownBlock = some b) wr (w3.setCell ⟨cp, 1, none⟩ (.slice A' (k + 1) c')) := (Keeps.of_below (hb2.trans (hW.mono hb2.size))).then hk4 fun b _ e => e
  have hk2 : Keeps (fun b => b = cp ∨ ov.ownBlock = some b) w2 (w3.setCell ⟨cp, 1, none⟩ (.slice A' (k + 1) c')) := (Keeps.of_below hW).then hk4 fun b _ e => e
  have hz : W.heap.size < (W.alloc o).heap.size := by simp
  have hpl : ∀ b, (Value.slice A' (k + 1) c').ownBlock = some b → ov.ownBlock = some b ∨ b = (W.alloc o).heap.size := hap.place
  have hs2 := hb2.size
  have hsW := hW.size
  have hcpw := (h.inb cp _ h.hdr).1
  have hlow : ∀ b l, both labO lab b = some l → b < (W.alloc o).heap.size := fun b l hb => by
    unfold both at hb
    cases hh : labO b with
    | none => rw [hh] at hb; have := (h.inb b l hb).2; omega
    | some l' => have := (hf.inb b l' hh).2; omega
  have hov : ∀ b l, both labO lab b = some l → l ≠ .objs → (Value.slice A' (k + 1) c').ownBlock ≠ some b := fun b l hb hl e => by
    rcases hpl b e with e | e
    · unfold both at hb
      cases hh : labO b with
      | none => rw [hh] at hb; exact hne b l hb hl e
      | some l' => have := (hf.inb b l' hh).1; have := (hovlt b e).2; omega
    · have := hlow b l hb; omega
  have hold : ∀ b l, lab b = some l → both labO lab b = some l := fun b l hb => by
    unfold both
    cases hh : labO b with
    | none => exact hb
    | some l' => have := (hf.inb b l' hh).1; have := (h.inb b l hb).2; omega
  have hfor : ∀ i (l : Lab), l.for = some i → l ≠ .objs ∧ l ≠ .hdr := fun i l hl => by constructor <;> (intro e; subst e; cases hl)
  refine ⟨fun b => if (Value.slice A' (k + 1) c').ownBlock = some b then some .objs else both labO lab b, ?_, fun b l hb => ?_, ?_, ?_, ?_, fun b e => by rw [if_pos e], fun i hi => ?_, ?_, fun b e => ?_⟩
  · refine h.below.trans (hkW.below h.below.size fun b e => ?_)
    rcases e with rfl | e
    · exact hcpw
    · exact (hovlt b e).1
  · split at hb
    · rename_i e
      have := hap.row.lt b e
      rw [show (w3.setCell ⟨cp, 1, none⟩ (Value.slice A' (k + 1) c')).heap.size = w3.heap.size by simp [World.setCell]]
      exact this
    · have h1 := hkW.size
      have h2 := hk2.size
      unfold both at hb
      cases hh : labO b with
      | none => rw [hh] at hb; have := h.inb b l hb; omega
      | some l' => have := hf.inb b l' hh; have := h.below.size; omega
  · rw [if_neg (hov cp .hdr (hold _ _ h.hdr) (by simp))]
    exact hold _ _ h.hdr
  · have h1 := (h.blk.below (hb2.trans (hW.mono hb2.size))).keeps hk3 (hne cp _ h.hdr (by simp))
    exact h1.set 1 _
  · exact owns_keeps hap.row ((Keeps.refl (fun b => b = cp) w3).setCell ⟨cp, 1, none⟩ _ fun _ => rfl) fun b e e' => hov b .hdr (by subst e'; exact hold _ _ h.hdr) (by simp) e
  · have hlen : vals.length = k := by have := h.objs.1; omega
    by_cases hik : i = k
    · subst hik
      refine ⟨v, by rw [List.getElem?_append_right (by omega)]; simp [hlen], ho.keeps hk2 fun g l hg hl => ⟨fun e => ?_, ?_⟩⟩
      · have := (hf.inb g l hg).1
        rcases e with rfl | e
        · omega
        · have := (hovlt g e).2; omega
      · have hb' : both labO lab g = some l := both_new hg
        rw [if_neg (hov g l hb' (hfor _ _ hl).1)]
        exact hb'
    · obtain ⟨v', hv', ho'⟩ := h.each i (by omega)
      refine ⟨v', by rw [List.getElem?_append_left (by omega)]; exact hv', ho'.keeps hkW fun g l hg hl => ⟨fun e => ?_, ?_⟩⟩
      · rcases e with rfl | e
        · rw [h.hdr] at hg; cases hg; exact (hfor _ _ hl).2 rfl
        · exact hne g l hg (hfor _ _ hl).1 e
      · rw [if_neg (hov g l (hold _ _ hg) (hfor _ _ hl).1)]
        exact hold _ _ hg
  · exact owns_keeps h.free hkW fun b e e' => by
      have := h.flab b e
      rcases e' with rfl | e'
      · rw [h.hdr] at this; cases this
      · exact hne b _ this (by simp) e'
  · rw [if_neg (hov b .free (hold _ _ (h.flab b e)) (by simp))]
    exact hold _ _ (h.flab b e)

theorem fcells_one (n : Nat) (f : Nat → Nat) : ∀ u ∈ fcells n f, u.oneCell' = true := by
  intro u hu
  obtain ⟨x, _, rfl⟩ := List.mem_map.1 hu
  rfl
/-- The copy when its free numbers are there. -/
theorem CopyIs.start {w W w4 : World} {lim nf c' : Nat} {ob : Obs} {f : Nat → Nat} {u : Value} {A' : Option Addr} (hb : Below w.heap.size w W) (hB : Blk W w.heap.size #[.int .i64 (lim : Int), .slice none 0 0, .slice none 0 0, u] 106)
    (hap : Appended W w4 w.heap.size 3 1 (.slice none 0 0) (.slice A' nf c') nf (fcells nf f)) :
    ∃ lab, CopyIs w (w4.setCell ⟨w.heap.size, 2, none⟩ (.slice A' nf c')) w.heap.size lim ob nf f u lab (.slice none 0 0) (.slice A' nf c') 0 [] := by
  have hlt := hB.lt
  have hk : Keeps (fun _ => False) W w4 := ⟨hap.grown.os, hap.grown.tape, hap.grown.output, hap.grown.size, fun k hk _ => hap.grown.block k hk (by simp [Value.ownBlock])⟩
  have hpl : ∀ b, (Value.slice A' nf c').ownBlock = some b → b = W.heap.size := fun b e => by
    rcases hap.place b e with h | h
    · cases h
    · exact h
  have hz : (w4.setCell ⟨w.heap.size, 2, none⟩ (.slice A' nf c')).heap.size = w4.heap.size := by simp [World.setCell]
  have hks := (Keeps.refl (fun b => b = w.heap.size) w4).setCell ⟨w.heap.size, 2, none⟩ (.slice A' nf c') fun _ => rfl
  refine ⟨fun b => if b = w.heap.size then some .hdr else if (Value.slice A' nf c').ownBlock = some b then some .free else none, ?_, fun b l hb' => ?_, by rw [if_pos rfl], ?_, ⟨rfl, .inl ⟨rfl, rfl⟩⟩, fun b e => (by cases e), fun i hi => by omega, ?_, fun b e => ?_⟩
  · exact (hb.trans (hk.below hb.size fun _ h => h.elim)).setCell (Nat.le_refl _) _
  · have := hk.size
    have := hb.size
    split at hb'
    · rename_i e; subst e; omega
    · split at hb'
      · rename_i e
        have := hap.row.lt b e
        omega
      · cases hb'
  · exact (hB.keeps hk id).set 2 _
  · refine owns_keeps hap.row hks fun b e e' => ?_
    have := hpl b e
    omega
  · rw [if_neg (by have := hpl b e; omega), if_pos e]

set_option maxRecDepth 100000 in
set_option maxHeartbeats 4000000 in
theorem copy_any {w : World} {base hp lim : Nat} {ob : Obs} {lab : Nat → Option Lab} {P : Parts} (h : HeapIs w base hp lim ob lab P) :
    Calls Tryd.prog 27 #[ptr hp] w fun e w' => e = .returned (ptr w.heap.size) ∧ (∃ lab' P', HeapIs w' w.heap.size w.heap.size lim ob lab' P') ∧ Below w.heap.size w w' := by
  have hML : P.m ≤ 65536 := by have := h.m; have := h.lim2; omega
  have hNF := nf_le h
  have HV := Lib.hid (valid_any h w (Below.refl _ _))
  have HH := Lib.hid h
  obtain ⟨i0, hi, hz0, hz1, hz2⟩ := info_parts object_info
  have HI := Lib.hid hi
  have HZ0 := Lib.hid hz0
  have HZ1 := Lib.hid hz1
  have HZ2 := Lib.hid hz2
  clear hi hz0 hz1 hz2
  obtain ⟨i1, hi, hz0, hz1, hz2⟩ := info_parts int_info
  have JI := Lib.hid hi
  have JZ0 := Lib.hid hz0
  have JZ1 := Lib.hid hz1
  have JZ2 := Lib.hid hz2
  obtain ⟨Ao, co, hov⟩ := slice_of' h.objs
  obtain ⟨Af, cf, hfv⟩ := slice_of' h.free
  have hq : ∀ W, Below w.heap.size w W → W.cell? ⟨hp, 0, none⟩ = some (.int .i64 (lim : Int)) ∧ W.cell? ⟨hp, 1, none⟩ = some (.slice Ao P.m co) ∧ W.cell? ⟨hp, 2, none⟩ = some (.slice Af P.nf cf) ∧ W.cell? ⟨hp, 3, none⟩ = some (.int .i64 (usedTo ob lim : Int)) := fun W hb => by
    have := (h.blk.below hb).four
    rw [hov, hfv] at this
    exact this
  have HQ := Lib.hid hq
  have HOv := Lib.hid hov
  have HFv := Lib.hid hfv
  clear hi hz0 hz1 hz2 h hov hfv hq
  go_enter Tryd.func27, Tryd.ntmps27
  go_wp2_with fail
  refine HV.out.mono ?_
  rintro e w1 ⟨rfl, rfl⟩
  go_wp2_with fail
  go_region_held3 (fun w' => w'.cell? ⟨hp, 0, none⟩ = some (.int .i64 (lim : Int)) ∧ w'.cell? ⟨hp, 3, none⟩ = some (.int .i64 (usedTo ob lim : Int)))
    (first | exact ⟨(HQ.out _ (Below.refl _ _).drew).1, (HQ.out _ (Below.refl _ _).drew).2.2.2⟩ | exact ⟨(HQ.out _ ((Below.refl _ _).drew.alloc (Nat.le_refl _) _)).1, (HQ.out _ ((Below.refl _ _).drew.alloc (Nat.le_refl _) _)).2.2.2⟩)
    (fail)
  have hb1 := ((Below.refl w.heap.size w).alloc (Nat.le_refl _) (.cells #[.int .i64 (lim : Int), .slice none 0 0, .slice none 0 0, .int .i64 (usedTo ob lim : Int)] 106)).drew
  have hB1 : Blk (w.alloc (.cells #[.int .i64 (lim : Int), .slice none 0 0, .slice none 0 0, .int .i64 (usedTo ob lim : Int)] 106)).drew w.heap.size _ _ := Blk.new w _ _
  obtain ⟨W1, hW1⟩ : ∃ W1, (w.alloc (.cells #[.int .i64 (lim : Int), .slice none 0 0, .slice none 0 0, .int .i64 (usedTo ob lim : Int)] 106)).drew = W1 := ⟨_, rfl⟩
  rw [hW1] at hb1 hB1
  have hcp : (w.heap.size == hp) = false := by
    have := HH.out.blk.lt
    exact beq_eq_false_iff_ne.2 (by omega)
  have hsrc : SrcIs W1.drew (.slice Af P.nf cf) P.nf (fcells P.nf P.f) 1 := by
    have := SrcIs.of_owns (owns_below HH.out.free hb1.drew)
    rw [HFv.out] at this
    exact this
  have c2 := hB1.cell 2 _ rfl
  have c2d : W1.drew.cell? ⟨w.heap.size, 2, none⟩ = some (.slice none 0 0) := c2
  have f2d : W1.drew.frozen? ⟨w.heap.size, 2, none⟩ = false := hB1.free 2
  have d2 := (HQ.out W1 hb1).2.2.1
  have HB1 := Lib.hid hb1
  have HBl := Lib.hid hB1
  have HW1 := Lib.hid hW1
  have HSr := Lib.hid hsrc
  have HC2 := Lib.hid (And.intro c2d f2d)
  have hs1 := hb1.size
  clear hb1 hB1 hW1 hsrc c2d f2d
  go_wp2_with fail
  rw [HW1.out]
  go_region_law ((refine step_append_src rfl (.tmp 23) (.tmp 27) 104 rfl w.heap.size 3 i1 (.int .i64 0) 1 8 Tryd.underlying104 JI.out JZ0.out JZ1.out JZ2.out rfl (by decide) (.slice none 0 0) 0 [] rfl ⟨rfl, .inl ⟨rfl, rfl⟩⟩ (.slice Af P.nf cf) P.nf (fcells P.nf P.f) rfl HSr.out (fcells_one _ _) (by unfold maxLen; omega) (by omega) hs1 ?_; intro A' c' w4 hap; rw [Nat.zero_add, List.nil_append] at hap; have c5 := hap.grown.cell HC2.out.1 (by simp [Value.ownBlock]); have f5 := grown_free hap.grown HC2.out.1 (by simp [Value.ownBlock]) HC2.out.2; have HAp := Lib.hid hap; clear hap))
  all_goals (
    obtain ⟨lab1, hS⟩ := CopyIs.start (W := W1.drew) (ob := ob) (u := .int .i64 (usedTo ob lim : Int)) HB1.out.drew HBl.out HAp.out
    have HS := Lib.hid hS
    have d1 := (HQ.out _ HS.out.below).2.1
    clear hS c5 f5 HAp HBl HB1 HC2 HSr HW1 c2 d2 hs1
    go_wp2_with fail
    go_loopw [36] (fun i wr => ∃ (k : Nat) (lab' : Nat → Option Lab) (ov : Value) (vals : List Value), i = .int .i64 (k : Int) ∧ k ≤ P.m ∧ Hid (CopyIs w wr w.heap.size lim ob P.nf P.f (.int .i64 (usedTo ob lim : Int)) lab' ov (.slice A' P.nf c') k vals)) (fun i _ => P.m - (intOf i).toNat)
    case atStart => exact ⟨0, _, _, _, rfl, Nat.zero_le _, HS⟩
    case round =>
      obtain ⟨k, labk, ov, vals, rfl, hk, HC⟩ := hrel
      by_cases hlt : k < P.m
      · have hltz : (k : Int) < P.m := by omega
        obtain ⟨v0, hv0, hO⟩ := HH.out.each k hlt
        obtain ⟨go, rfl⟩ : ∃ go, Ao = some ⟨go, 0, none⟩ := by
          rcases HH.out.objs.2 with ⟨_, h0⟩ | ⟨g, cap, cur, hv, _⟩
          · omega
          · rw [HOv.out] at hv
            cases hv
            exact ⟨g, rfl⟩
        have hrow : Row wr go P.vals := by
          have := HH.out.objs
          rw [HOv.out] at this
          exact (Row.of_owns this).below HC.out.below
        have e1 := hrow.cell k _ hv0
        obtain ⟨A3, c3, rfl⟩ := slice_of' HC.out.objs
        have g1 := HC.out.blk.cell 1 _ rfl
        have g1f := HC.out.blk.free 1
        have hco : k ≤ co := by
          have := HH.out.objs
          rw [HOv.out] at this
          rcases this.2 with ⟨h, _⟩ | ⟨g', cap, cur, hh, _, _, h1, h2, _⟩
          · cases h
          · cases hh; omega
        have HNe := Lib.hid (show some (⟨w.heap.size, 1, none⟩ : Addr).block ≠ (Value.slice A3 k c3).ownBlock from fun e => by
          have h1 := HC.out.olab w.heap.size e.symm
          rw [HC.out.hdr] at h1
          cases h1)
        clear hrow
        have hD : ∀ W, Below wr.heap.size wr W → Calls Tryd.prog 76 #[v0] W fun e w' => (∃ v', e = .returned v' ∧ DupOk W w' k v' (ob k)) ∧ Below W.heap.size W w' := fun W hb =>
          dup_any (hO.keeps (F := fun _ => False) (.of_below (HC.out.below.trans (hb.mono HC.out.below.size))) (fun g l hg _ => ⟨id, hg⟩)) (HH.out.small k)
        cases hob : ob k with
        | none =>
        rw [hob] at hO hD
        obtain rfl := hO

        have HD := Lib.hid hD
        have HV0 := Lib.hid hv0
        clear hD hv0
        go_wp2_with fail
        go_region_law ((first
          | (have tok9 := HD6; clear tok9; refine step_append_src rfl (.tmp 44) (.tmp 47) 103 rfl w.heap.size 117 i0 .nilIface 1 16 Tryd.underlying103 HI.out HZ0.out HZ1.out HZ2.out rfl (by decide) (.slice A3 k c3) k vals rfl (by exact owns_below HC.out.objs (HB6.out.alloc HB6.out.size _)) (.slice (some ⟨w6.heap.size, 0, none⟩) 1 1) 1 [.nilIface] rfl ⟨rfl, .inr ⟨_, 1, rfl, one_cell w6 _ _⟩⟩ (one_one rfl) (by unfold maxLen; omega) (by omega) (by exact HSz6.out) ?_; intro A7 c7' w7 hap7; have c7 := hap7.grown.cell (more (HC6.out.1) _) HNe.out; have f7 := grown_free hap7.grown (more HC6.out.1 _) HNe.out (HC6.out.2 _); have HA7 := Lib.hid hap7; clear hap7)
          | (go_simp; go_at_call 76; refine (HD.out _ (by exact (Below.refl _ _).drew)).mono ?_; rintro e w6 ⟨⟨v6, rfl, hd6⟩, hb6⟩; obtain rfl := DupOk.none hd6; have c6 := (((Below.refl _ _).drew.trans hb6).cell (World.block_lt_of_cell? _ _ g1)).trans g1; have f6 := (((Below.refl _ _).drew.trans hb6).frozen (World.block_lt_of_cell? _ _ g1)).trans g1f; have c6m := more c6; have HC6 := Lib.hid (And.intro c6 (show ∀ o, (w6.alloc o).frozen? ⟨w.heap.size, 1, none⟩ = false from fun o => (((Below.refl _ _).alloc (Nat.le_refl _) o).frozen (World.block_lt_of_cell? _ _ c6)).trans f6)); have HB6 := Lib.hid ((Below.refl wr.heap.size wr).drew.trans hb6); have HD6 := Lib.hid hd6; have HSz6 := Lib.hid (show w.heap.size ≤ (w6.alloc (.cells #[.nilIface] 117)).heap.size from Nat.le_trans (Nat.le_trans HC.out.below.size HB6.out.size) (by simp)); clear hd6 hb6 f6)))
        all_goals (
          obtain ⟨lab9, h9⟩ := CopyIs.push HC.out HB6.out (by rw [hob]; exact DupOk.undrew HD6.out) (Below.refl _ _) HA7.out
          have H9 := Lib.hid h9
          clear h9 HA7 HD6 HB6 HC6 HC HD
          go_wp2_with fail
          go_roundw
          case rel => exact ⟨k + 1, _, _, _, by go_num, by omega, H9⟩
          case measure => simp [intOf]; omega)

        | some o6 =>
        rw [hob] at hO hD
        obtain ⟨t0, p0, rfl⟩ := Add.some_iface hO

        have HD := Lib.hid hD
        have HV0 := Lib.hid hv0
        clear hD hO hv0
        go_wp2_with fail
        go_region_law ((first
          | (have tok9 := HD6; clear tok9; refine step_append_src rfl (.tmp 44) (.tmp 47) 103 rfl w.heap.size 117 i0 .nilIface 1 16 Tryd.underlying103 HI.out HZ0.out HZ1.out HZ2.out rfl (by decide) (.slice A3 k c3) k vals rfl (by exact owns_below HC.out.objs (HB6.out.alloc HB6.out.size _)) (.slice (some ⟨w6.heap.size, 0, none⟩) 1 1) 1 [.iface t6 p6] rfl ⟨rfl, .inr ⟨_, 1, rfl, one_cell w6 _ _⟩⟩ (one_one rfl) (by unfold maxLen; omega) (by omega) (by exact HSz6.out) ?_; intro A7 c7' w7 hap7; have c7 := hap7.grown.cell (more (HC6.out.1) _) HNe.out; have f7 := grown_free hap7.grown (more HC6.out.1 _) HNe.out (HC6.out.2 _); have HA7 := Lib.hid hap7; clear hap7)
          | (go_simp; go_at_call 76; refine (HD.out _ (by exact (Below.refl _ _).drew)).mono ?_; rintro e w6 ⟨⟨v6, rfl, hd6⟩, hb6⟩; obtain ⟨t6, p6, rfl⟩ := DupOk.some hd6; have c6 := (((Below.refl _ _).drew.trans hb6).cell (World.block_lt_of_cell? _ _ g1)).trans g1; have f6 := (((Below.refl _ _).drew.trans hb6).frozen (World.block_lt_of_cell? _ _ g1)).trans g1f; have c6m := more c6; have HC6 := Lib.hid (And.intro c6 (show ∀ o, (w6.alloc o).frozen? ⟨w.heap.size, 1, none⟩ = false from fun o => (((Below.refl _ _).alloc (Nat.le_refl _) o).frozen (World.block_lt_of_cell? _ _ c6)).trans f6)); have HB6 := Lib.hid ((Below.refl wr.heap.size wr).drew.trans hb6); have HD6 := Lib.hid hd6; have HSz6 := Lib.hid (show w.heap.size ≤ (w6.alloc (.cells #[.iface t6 p6] 117)).heap.size from Nat.le_trans (Nat.le_trans HC.out.below.size HB6.out.size) (by simp)); clear hd6 hb6 f6)))
        all_goals (
          obtain ⟨lab9, h9⟩ := CopyIs.push HC.out HB6.out (by rw [hob]; exact DupOk.undrew HD6.out) (Below.refl _ _) HA7.out
          have H9 := Lib.hid h9
          clear h9 HA7 HD6 HB6 HC6 HC HD
          go_wp2_with fail
          go_roundw
          case rel => exact ⟨k + 1, _, _, _, by go_num, by omega, H9⟩
          case measure => simp [intOf]; omega)

      · obtain hke : k = P.m := by omega
        have hltz : ¬ (k : Int) < P.m := by omega
        have hfin : HeapIs wr w.heap.size w.heap.size lim ob labk { P with ov := ov, fv := .slice A' P.nf c', vals := vals } := by
          have h1 := HC.out
          rw [hke] at h1
          exact CopyIs.done HH.out h1
        have HF := Lib.hid hfin
        have HBe := Lib.hid HC.out.below
        clear hfin HC
        go_wp2_with fail
        go_ret
        exact ⟨rfl, ⟨_, _, HF.out⟩, HBe.out⟩)
end Go.Proofs.YtcdlfgggmigcnaaDoor.Dup
