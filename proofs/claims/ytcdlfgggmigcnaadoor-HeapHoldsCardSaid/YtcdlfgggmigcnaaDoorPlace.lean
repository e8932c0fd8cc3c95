/- The contract of (*Heap).place. -/
import Derived.Test.YtcdlfgggmigcnaaDoorSize
import Derived.Test.YtcdlfgggmigcnaaDoorFree2
namespace Go.Proofs.YtcdlfgggmigcnaaDoor.Place
set_option maxRecDepth 100000
open Go.RowKit
open Go.Proofs.YtcdlfgggmigcnaaDoor.Own Go.Proofs.YtcdlfgggmigcnaaDoor.Hp Go.Proofs.YtcdlfgggmigcnaaDoor.HeapOrd Go.Proofs.YtcdlfgggmigcnaaDoor.Rep Go.Proofs.YtcdlfgggmigcnaaDoor.Base Go.Proofs.YtcdlfgggmigcnaaDoor.Get Go.Proofs.YtcdlfgggmigcnaaDoor.Meth Go.Proofs.YtcdlfgggmigcnaaDoor.Quick Go.Proofs.YtcdlfgggmigcnaaDoor.Size Go.Proofs.YtcdlfgggmigcnaaDoor.Nums

theorem object_info : (Tryd.prog.info? 117).map (fun i => (i.zero, i.size, i.bytes)) = some (some .nilIface, 1, 16) := by kernel_rfl

theorem one_cell (w : World) (v : Value) (t : TypeId) : ∀ j u, [v][j]? = some u → (w.alloc (.cells #[v] t)).cell? ((⟨w.heap.size, 0, none⟩ : Addr).add j) = some u := by
  intro j x hj
  cases j with
  | zero =>
    simp at hj
    subst hj
    exact (Blk.new w #[v] t).cell 0 _ rfl
  | succ j => simp at hj
theorem one_one {v : Value} (h : v.oneCell' = true) : ∀ u ∈ [v], u.oneCell' = true := by
  intro x hx
  simp at hx
  subst hx
  exact h

/-- What place leaves where no number is free. -/
structure PlacedEnd (w w' : World) (base hp m : Nat) (l fv u ov ov' : Value) (vals : List Value) (v : Value) : Prop where
  blk : Blk w' hp #[l, ov', fv, u] 106
  row : w'.ownsRow base 117 1 ov' (m + 1) (vals ++ [v])
  keeps : Keeps (fun b => b = hp ∨ ov.ownBlock = some b) w w'
  place : ∀ b, ov'.ownBlock = some b → ov.ownBlock = some b ∨ w.heap.size ≤ b

set_option maxHeartbeats 4000000 in
theorem place_end (base hp m c : Nat) (A : Option Addr) (ti : TypeId) (l u ov pv : Value) (vals : List Value) (w : World) (hm : m ≤ 65536) (hB : Blk w hp #[l, ov, .slice A 0 c, u] 106) (hown : w.ownsRow base 117 1 ov m vals)
    (hb : base ≤ w.heap.size) (hne : ov.ownBlock ≠ some hp) :
    Calls Tryd.prog 106 #[ptr hp, .iface ti pv] w fun e w' => e = .returned (.int .i64 (m : Int)) ∧ ∃ ov', PlacedEnd w w' base hp m l (.slice A 0 c) u ov ov' vals (.iface ti pv) := by
  obtain ⟨i0, hi, hz0, hz1, hz2⟩ := info_parts object_info
  have HI := Lib.hid hi
  have HZ0 := Lib.hid hz0
  have HZ1 := Lib.hid hz1
  have HZ2 := Lib.hid hz2
  obtain ⟨c0, c1, c2, c3⟩ := hB.four
  have c11 := more c1
  have HOw := Lib.hid hown
  have HNe := Lib.hid hne
  have HB := Lib.hid hB
  clear hi hz0 hz1 hz2 hown hne hB
  go_enter Tryd.func106, Tryd.ntmps106
  go_wp2_with (at_builtin; refine wpList_append_place rfl (.tmp 16) (.tmp 18) 103 rfl base 117 i0 .nilIface 1 16 Tryd.underlying103 HI.out HZ0.out HZ1.out HZ2.out rfl (by decide) ov m vals rfl (HOw.out.alloc _) ⟨w.heap.size, 0, none⟩ 1 1 [.iface ti pv] rfl rfl (one_cell w _ _) (one_one rfl) (by as_aux_lemma => (unfold maxLen; omega)) (by as_aux_lemma => omega) (by as_aux_lemma => (simp; omega)) ?_)
  intro A' c' w1 hap
  have hk : Keeps (fun b => ov.ownBlock = some b) w w1 := keeps_push (w := w) (o := .cells #[.iface ti pv] 117) hap.grown rfl rfl rfl rfl
  have hpl : ∀ b, (Value.slice A' (m + 1) c').ownBlock = some b → ov.ownBlock = some b ∨ w.heap.size ≤ b := fun b hb => by
    rcases hap.place b hb with h | h
    · exact .inl h
    · exact .inr (by subst h; exact alloc_le _ _)
  have hB1 := HB.out.keeps hk HNe.out
  have hne2 : (Value.slice A' (m + 1) c').ownBlock ≠ some hp := fun e => by
    rcases hpl hp e with h | h
    · exact HNe.out h
    · have := HB.out.lt; omega
  have hfin : PlacedEnd w (w1.setCell ⟨hp, 1, none⟩ (.slice A' (m + 1) c')) base hp m l (.slice A 0 c) u ov (.slice A' (m + 1) c') vals (.iface ti pv) :=
    ⟨hB1.set 1 _, owns_keeps hap.row ((Keeps.refl (fun b => b = hp) w1).setCell ⟨hp, 1, none⟩ _ fun _ => rfl) fun b hb e => hne2 (e ▸ hb), (hk.mono fun b _ e => .inr e).setCell ⟨hp, 1, none⟩ _ fun _ => .inl rfl, hpl⟩
  have HF := Lib.hid hfin
  obtain ⟨d0, d1, d2, d3⟩ := hB1.four
  have f1 := hB1.free
  clear hfin hap hk hpl hne2 hB1 c0 c1 c2 c3 c11
  go_wp2_with fail
  go_ret
  exact ⟨by simp, _, HF.out⟩

/-- What place leaves where a number was free. -/
structure PlacedHole (w w' : World) (base hp m n g c go co k : Nat) (l u : Value) (vals : List Value) (v : Value) (f f' : Nat → Nat) : Prop where
  blk : Blk w' hp #[l, .slice (some ⟨go, 0, none⟩) m co, .slice (some ⟨g, 0, none⟩) n c, u] 106
  row : w'.ownsRow base 117 1 (.slice (some ⟨go, 0, none⟩) m co) m (vals.set k v)
  free : w'.ownsRow base 3 1 (.slice (some ⟨g, 0, none⟩) n c) n (fcells n f')
  keeps : Keeps (fun b => b = hp ∨ b = g ∨ b = go) w w'
  sames : Sames (n + 1) f f'
  last : f' n = k
  ord : Ord f' n

set_option maxHeartbeats 4000000 in
theorem place_hole (base hp m n g c go co : Nat) (ti : TypeId) (l u pv : Value) (vals : List Value) (f : Nat → Nat) (w : World) (_hm : m ≤ 65536) (hn : n ≤ 65536) (hB : Blk w hp #[l, .slice (some ⟨go, 0, none⟩) m co, .slice (some ⟨g, 0, none⟩) (n + 1) c, u] 106)
    (hown : w.ownsRow base 117 1 (.slice (some ⟨go, 0, none⟩) m co) m vals) (hfree : w.ownsRow base 3 1 (.slice (some ⟨g, 0, none⟩) (n + 1) c) (n + 1) (fcells (n + 1) f))
    (hne : hp ≠ g) (hne2 : hp ≠ go) (hne3 : g ≠ go) (ho : Ord f (n + 1)) (hk : f 0 < m) :
    Calls Tryd.prog 106 #[ptr hp, .iface ti pv] w fun e w' => e = .returned (.int .i64 (f 0 : Int)) ∧ ∃ f', PlacedHole w w' base hp m n g c go co (f 0) l u vals (.iface ti pv) f f' := by
  obtain ⟨c0, c1, c2, c3⟩ := hB.four
  have hL := least_any base hp 2 n g c f _ _ w hn hB rfl hfree hne ho
  obtain ⟨k, hk0⟩ : ∃ k, f 0 = k := ⟨_, rfl⟩
  rw [hk0] at hL hk ⊢
  have HK := Lib.hid hk0
  have HL := Lib.hid hL
  have HOw := Lib.hid hown
  have HN := Lib.hid (And.intro hne2 hne3)
  have hz : ((n : Int) + 1 == 0) = false := beq_eq_false_iff_ne.2 (by omega)
  clear hL hown hne hne2 hne3 ho hfree hB hk0
  go_enter Tryd.func106, Tryd.ntmps106
  go_wp2_with fail
  refine HL.out.mono ?_
  rintro e w1 ⟨rfl, f', hT⟩
  obtain ⟨d0, d1, d2, d3⟩ := hT.blk.four
  have hO1 := owns_keeps HOw.out hT.keeps (fun b hb e => by
    simp only [Value.ownBlock, Option.some.injEq] at hb
    rcases e with e | e
    · exact HN.out.1 (by rw [hb]; exact e.symm)
    · exact HN.out.2 (by rw [hb]; exact e.symm))
  have hr := Row.of_owns hO1
  have hlen : vals.length = m := by have := hO1.1; omega
  have hcv : w1.cell? ⟨go, k, none⟩ = some (vals[k]'(by omega)) := hr.cell k _ (List.getElem?_eq_getElem (by omega))
  have hfr := hr.free k
  have hfin : PlacedHole w (w1.setCell ⟨go, k, none⟩ (.iface ti pv)) base hp m n g c go co k l u vals (.iface ti pv) f f' :=
    ⟨hT.blk.setOther _ _ (fun e => HN.out.1 e.symm), owns_set hO1 k _, owns_keeps hT.row ((Keeps.refl (fun b => b = go) w1).setCell ⟨go, k, none⟩ _ fun _ => rfl) (fun b hb e => by
      simp only [Value.ownBlock, Option.some.injEq] at hb
      exact HN.out.2 (by rw [hb]; exact e)), (hT.keeps.mono fun b _ e => by rcases e with e | e; exact .inl e; exact .inr (.inl e)).setCell ⟨go, k, none⟩ _ fun _ => .inr (.inr rfl), hT.sames, by rw [hT.last, HK.out], hT.ord⟩
  have HF := Lib.hid hfin
  obtain ⟨x, hx⟩ : ∃ x, vals[k]'(by omega) = x := ⟨_, rfl⟩
  rw [hx] at hcv
  clear hfin hT hO1 hr hx c0 c1 c2 c3
  go_wp2_with fail
  go_ret
  exact ⟨rfl, f', HF.out⟩
end Go.Proofs.YtcdlfgggmigcnaaDoor.Place
