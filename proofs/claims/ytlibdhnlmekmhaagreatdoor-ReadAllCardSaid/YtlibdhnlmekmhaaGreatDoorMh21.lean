/- The contracts of Many, Room, Limit, Live and New. | The contracts of the objects' sizes. | The contract of (*Heap).place. | The contracts of (*Heap).place and add over a heap. -/
import Derived.Laws.StructEq
import Derived.Deep.RegionWith
import Derived.IntWalk
import Derived.Test.YtlibdhnlmekmhaaGreatDoorMh19
import Derived.Test.YtlibdhnlmekmhaaGreatDoorMh20
/- The contracts of Many, Room, Limit, Live and New. -/
section
namespace Go.Proofs.YtlibdhnlmekmhaaGreatDoor.Quick
open Go.RowKit
open Go.Proofs.YtlibdhnlmekmhaaGreatDoor.Own Go.Proofs.YtlibdhnlmekmhaaGreatDoor.Hp Go.Proofs.YtlibdhnlmekmhaaGreatDoor.HeapOrd Go.Proofs.YtlibdhnlmekmhaaGreatDoor.Rep Go.Proofs.YtlibdhnlmekmhaaGreatDoor.Base Go.Proofs.YtlibdhnlmekmhaaGreatDoor.Find Go.Proofs.YtlibdhnlmekmhaaGreatDoor.Get

set_option maxHeartbeats 1000000 in
theorem many_core (hp m n c1 c2 : Nat) (A B : Option Addr) (w : World) (V : ∀ w', Below w.heap.size w w' → Calls Tryz.prog 69 #[ptr hp] w' fun e w'' => e = .returned (.bool true) ∧ w' = w'')
    (h1 : w.cell? ⟨hp, 1, none⟩ = some (.slice A m c1)) (h2 : w.cell? ⟨hp, 2, none⟩ = some (.slice B n c2)) (hm : m ≤ 65536) (hn : n ≤ 65536) :
    Calls Tryz.prog 25 #[ptr hp] w fun e w' => e = .returned (.int .i64 ((m : Int) - n)) ∧ ∃ q, w' = w.drewN q := by
  have HV := Lib.hid (V w (Below.refl _ _))
  clear V
  go_enter Tryz.func25, Tryz.ntmps25
  go_wp2_with (go_at_call 69; refine HV.out.mono ?_; rintro e w' ⟨rfl, rfl⟩)
  go_quiet (fail)
  go_wp2
  go_ret
  exact ⟨rfl, _, rfl⟩
theorem slice_of {w : World} {base : Nat} {e : TypeId} {size : Nat} {v : Value} {n : Nat} {xs : List Value} (h : w.ownsRow base e size v n xs) : ∃ A c, v = .slice A n c := by
  rcases h.2 with ⟨rfl, rfl⟩ | ⟨g, cap, cur, rfl, _⟩
  · exact ⟨none, 0, rfl⟩
  · exact ⟨_, _, rfl⟩
theorem nf_le {w : World} {base hp lim : Nat} {ob : Obs} {lab : Nat → Option Lab} {P : Parts} (h : HeapIs w base hp lim ob lab P) : P.nf ≤ 65536 := by
  have := h.many
  have := h.m
  have := h.lim2
  omega
theorem many_any {w : World} {base hp lim : Nat} {ob : Obs} {lab : Nat → Option Lab} {P : Parts} (h : HeapIs w base hp lim ob lab P) :
    Calls Tryz.prog 25 #[ptr hp] w fun e w' => e = .returned (.int .i64 (manyTo ob lim)) ∧ ∃ q, w' = w.drewN q := by
  obtain ⟨A, c1, h1⟩ := slice_of h.objs
  obtain ⟨B, c2, h2⟩ := slice_of h.free
  have hm := h.many
  have h3 := h.m
  have h4 := h.lim2
  rw [show (manyTo ob lim : Int) = (P.m : Int) - P.nf from by omega]
  exact many_core hp P.m P.nf c1 c2 A B w (valid_any h) (by rw [← h1]; exact h.blk.cell 1 _ rfl) (by rw [← h2]; exact h.blk.cell 2 _ rfl) (by omega) (nf_le h)
theorem many_null (w : World) : Calls Tryz.prog 25 #[.pointer none] w fun e w' => e = .returned (.int .i64 0) ∧ w = w' := by
  have HV := Lib.hid valid_nil
  go_enter Tryz.func25, Tryz.ntmps25
  go_wp2_with (go_at_call 69; refine (HV.out _).mono ?_; rintro e w' ⟨rfl, rfl⟩)
  go_ret
  exact ⟨rfl, rfl⟩

theorem room_core (hp n : Nat) (w : World) (V : ∀ w', Below w.heap.size w w' → Calls Tryz.prog 69 #[ptr hp] w' fun e w'' => e = .returned (.bool true) ∧ w' = w'')
    (h1 : w.cell? ⟨hp, 3, none⟩ = some (.int .i64 (n : Int))) (hn : n ≤ 1048576) :
    Calls Tryz.prog 155 #[ptr hp] w fun e w' => e = .returned (.int .i64 (1048576 - (n : Int))) ∧ w = w' := by
  have HV := Lib.hid (V w (Below.refl _ _))
  clear V
  go_enter Tryz.func155, Tryz.ntmps155
  go_wp2_with (go_at_call 69; refine HV.out.mono ?_; rintro e w' ⟨rfl, rfl⟩)
  go_ret
  exact ⟨rfl, rfl⟩
theorem room_any {w : World} {base hp lim : Nat} {ob : Obs} {lab : Nat → Option Lab} {P : Parts} (h : HeapIs w base hp lim ob lab P) :
    Calls Tryz.prog 155 #[ptr hp] w fun e w' => e = .returned (.int .i64 (1048576 - (usedTo ob lim : Int))) ∧ w = w' :=
  room_core hp _ w (valid_any h) (h.blk.cell 3 _ rfl) h.used
theorem room_null (w : World) : Calls Tryz.prog 155 #[.pointer none] w fun e w' => e = .returned (.int .i64 0) ∧ w = w' := by
  have HV := Lib.hid valid_nil
  go_enter Tryz.func155, Tryz.ntmps155
  go_wp2_with (go_at_call 69; refine (HV.out _).mono ?_; rintro e w' ⟨rfl, rfl⟩)
  go_ret
  exact ⟨rfl, rfl⟩
theorem limit_core (hp n : Nat) (w : World) (V : ∀ w', Below w.heap.size w w' → Calls Tryz.prog 69 #[ptr hp] w' fun e w'' => e = .returned (.bool true) ∧ w' = w'')
    (h1 : w.cell? ⟨hp, 0, none⟩ = some (.int .i64 (n : Int))) :
    Calls Tryz.prog 118 #[ptr hp] w fun e w' => e = .returned (.int .i64 (n : Int)) ∧ w = w' := by
  have HV := Lib.hid (V w (Below.refl _ _))
  clear V
  go_enter Tryz.func118, Tryz.ntmps118
  go_wp2_with (go_at_call 69; refine HV.out.mono ?_; rintro e w' ⟨rfl, rfl⟩)
  go_ret
  exact ⟨rfl, rfl⟩
theorem limit_any {w : World} {base hp lim : Nat} {ob : Obs} {lab : Nat → Option Lab} {P : Parts} (h : HeapIs w base hp lim ob lab P) :
    Calls Tryz.prog 118 #[ptr hp] w fun e w' => e = .returned (.int .i64 (lim : Int)) ∧ w = w' :=
  limit_core hp _ w (valid_any h) (h.blk.cell 0 _ rfl)

theorem new_bad (n : Int) (h : n < 1 ∨ 65536 < n) (w : World) : Calls Tryz.prog 46 #[.int .i64 n] w fun e w' => e = .returned (.tuple #[.pointer none, .int .i64 3]) ∧ w = w' := by
  rcases h with h | h
  · have hd : decide (n < 1) = true := decide_eq_true h
    go_enter Tryz.func46, Tryz.ntmps46
    go_wp2
    go_ret2
    exact ⟨rfl, rfl⟩
  · have hd : decide (n < 1) = false := decide_eq_false (by omega)
    have hd2 : decide (65536 < n) = true := decide_eq_true h
    go_enter Tryz.func46, Tryz.ntmps46
    go_wp2
    go_ret2
    exact ⟨rfl, rfl⟩
theorem new_core (n : Nat) (h1 : 1 ≤ n) (h2 : n ≤ 65536) (w : World) :
    Calls Tryz.prog 46 #[.int .i64 (n : Int)] w fun e w' => e = .returned (.tuple #[ptr w.heap.size, .int .i64 0]) ∧ w' = w.alloc (.cells #[.int .i64 (n : Int), .slice none 0 0, .slice none 0 0, .int .i64 0] 105) := by
  have hd : decide ((n : Int) < 1) = false := decide_eq_false (by omega)
  have hd2 : decide ((65536 : Int) < n) = false := decide_eq_false (by omega)
  go_enter Tryz.func46, Tryz.ntmps46
  go_wp2
  go_ret2
  exact ⟨rfl, rfl⟩
def noObs : Obs := fun _ => none
theorem usedTo_none (n : Nat) : usedTo noObs n = 0 := by
  induction n with
  | zero => rfl
  | succ n ih => simp only [usedTo, ih]; rfl
/-- A new heap is empty. -/
theorem new_any (n : Nat) (h1 : 1 ≤ n) (h2 : n ≤ 65536) (w : World) :
    Calls Tryz.prog 46 #[.int .i64 (n : Int)] w fun e w' => e = .returned (.tuple #[ptr w.heap.size, .int .i64 0]) ∧ Below w.heap.size w w' ∧ HeapIs w' w.heap.size w.heap.size n noObs (fun b => if b = w.heap.size then some .hdr else none) ⟨0, .slice none 0 0, .slice none 0 0, [], 0, fun _ => 0⟩ := by
  refine (new_core n h1 h2 w).mono ?_
  rintro e w' ⟨rfl, rfl⟩
  refine ⟨rfl, (Below.refl _ _).alloc (Nat.le_refl _) _, ?_⟩
  exact {
    lim1 := h1
    lim2 := h2
    inb := fun b l hb => by
      split at hb
      · rename_i e; subst e; simp
      · cases hb
    hdr := by simp
    blk := by rw [usedTo_none]; exact Blk.new _ _ _
    m := by simp
    out := fun _ _ => rfl
    used := by rw [usedTo_none]; omega
    objs := ⟨by simp, .inl ⟨rfl, rfl⟩⟩
    olab := fun k hk => by cases hk
    each := fun i hi => by simp at hi
    small := fun _ => trivial
    free := ⟨by simp [fcells], .inl ⟨rfl, rfl⟩⟩
    flab := fun k hk => by cases hk
    ord := fun k _ hk => by simp at hk
    inj := fun a b ha => by simp at ha
    holes := fun x => by simp }
end Go.Proofs.YtlibdhnlmekmhaaGreatDoor.Quick
end

/- The contracts of the objects' sizes. -/
section
namespace Go.Proofs.YtlibdhnlmekmhaaGreatDoor.Size
open Go.RowKit
open Go.Proofs.YtlibdhnlmekmhaaGreatDoor.Own Go.Proofs.YtlibdhnlmekmhaaGreatDoor.Hp Go.Proofs.YtlibdhnlmekmhaaGreatDoor.HeapOrd Go.Proofs.YtlibdhnlmekmhaaGreatDoor.Rep Go.Proofs.YtlibdhnlmekmhaaGreatDoor.Base Go.Proofs.YtlibdhnlmekmhaaGreatDoor.Get Go.Proofs.YtlibdhnlmekmhaaGreatDoor.Meth Go.Proofs.YtlibdhnlmekmhaaGreatDoor.Quick

theorem size_cons (p : Value) (w : World) : Calls Tryz.prog 286 #[p] w fun e w' => e = .returned (.int .i64 0) ∧ w = w' := by
  go_enter Tryz.func286, Tryz.ntmps286
  go_wp2
  go_ret
  exact ⟨rfl, rfl⟩
theorem size_text (g : Nat) (x : Int) (w : World) (h : w.cell? ⟨g, 1, none⟩ = some (.int .i64 x)) : Calls Tryz.prog 290 #[ptr g] w fun e w' => e = .returned (.int .i64 x) ∧ w = w' := by
  go_enter Tryz.func290, Tryz.ntmps290
  go_wp2
  go_ret
  exact ⟨rfl, rfl⟩
theorem size_vector (g n c : Nat) (A : Option Addr) (w : World) (h : w.cell? ⟨g, 0, none⟩ = some (.slice A n c)) : Calls Tryz.prog 293 #[ptr g] w fun e w' => e = .returned (.int .i64 (n : Int)) ∧ w = w' := by
  go_enter Tryz.func293, Tryz.ntmps293
  go_wp2
  go_ret
  exact ⟨rfl, rfl⟩
theorem size_code (g n c n2 c2 : Nat) (A A2 : Option Addr) (w : World) (h : w.cell? ⟨g, 3, none⟩ = some (.slice A n c)) (h2 : w.cell? ⟨g, 4, none⟩ = some (.slice A2 n2 c2)) (b1 : n ≤ 65536) (b2 : n2 ≤ 65536) :
    Calls Tryz.prog 294 #[ptr g] w fun e w' => e = .returned (.int .i64 ((n : Int) + n2)) ∧ ∃ q, w' = w.drewN q := by
  go_enter Tryz.func294, Tryz.ntmps294
  go_wp2
  go_quiet (fail)
  go_wp2
  go_ret
  exact ⟨rfl, _, rfl⟩

/-- A quiet call in a region that draws its order. -/
theorem quietQ {P : Program} {f : FuncId} {args : Array Value} {w : World} {n : Nat} {v : Value}
    (h : Calls P f args (w.drewN n) fun e w' => e = .returned v ∧ ∃ q, w' = (w.drewN n).drewN q) : Calls P f args (w.drewN n) fun e w'' => e = .returned v ∧ ∃ m, w'' = w.drewN m :=
  h.mono fun _ _ ⟨he, q, hq⟩ => ⟨he, n + q, by rw [hq, World.drewN_drewN]⟩
theorem quietQ2 {P : Program} {f : FuncId} {args : Array Value} {w : World} {a n : Nat} {v : Value}
    (h : Calls P f args (w.drewN (a + n)) fun e w' => e = .returned v ∧ ∃ q, w' = (w.drewN (a + n)).drewN q) : Calls P f args (w.drewN (a + n)) fun e w'' => e = .returned v ∧ ∃ m, w'' = w.drewN (a + m) :=
  h.mono fun _ _ ⟨he, q, hq⟩ => ⟨he, n + q, by rw [hq, World.drewN_drewN, Nat.add_assoc]⟩
/-- A call that only draws, in every world that has only grown. -/
def Draws (W : World) (f : FuncId) (a : Array Value) (v : Value) : Prop := ∀ w, Below W.heap.size W w → Calls Tryz.prog f a w fun e w' => e = .returned v ∧ ∃ q, w' = w.drewN q
theorem Draws.out {W : World} {f : FuncId} {a : Array Value} {v : Value} (h : Draws W f a v) (w : World) (hb : Below W.heap.size W w) : Calls Tryz.prog f a w fun e w' => e = .returned v ∧ ∃ q, w' = w.drewN q := h w hb
theorem draws_same {W : World} {f : FuncId} {a : Array Value} {v : Value} (h : ∀ w, Below W.heap.size W w → Calls Tryz.prog f a w fun e w' => e = .returned v ∧ w = w') : Draws W f a v :=
  fun w hb => (h w hb).mono fun _ _ ⟨he, hw⟩ => ⟨he, 0, hw.symm⟩
theorem draws_many {w : World} {base hp lim : Nat} {ob : Obs} {lab : Nat → Option Lab} {P : Parts} (h : HeapIs w base hp lim ob lab P) : Draws w 25 #[ptr hp] (.int .i64 (manyTo ob lim)) := fun _ hb => many_any (h.below hb)
theorem draws_room {w : World} {base hp lim : Nat} {ob : Obs} {lab : Nat → Option Lab} {P : Parts} (h : HeapIs w base hp lim ob lab P) : Draws w 155 #[ptr hp] (.int .i64 (1048576 - (usedTo ob lim : Int))) := draws_same fun _ hb => room_any (h.below hb)
theorem Draws.quiet {W : World} {f : FuncId} {a : Array Value} {v : Value} (h : Draws W f a v) {w : World} {n : Nat} (hb : Below W.heap.size W (w.drewN n)) : Calls Tryz.prog f a (w.drewN n) fun e w'' => e = .returned v ∧ ∃ m, w'' = w.drewN m := quietQ (h _ hb)
theorem Draws.quiet2 {W : World} {f : FuncId} {a : Array Value} {v : Value} (h : Draws W f a v) {w : World} {c n : Nat} (hb : Below W.heap.size W (w.drewN (c + n))) : Calls Tryz.prog f a (w.drewN (c + n)) fun e w'' => e = .returned v ∧ ∃ m, w'' = w.drewN (c + m) := quietQ2 (h _ hb)
end Go.Proofs.YtlibdhnlmekmhaaGreatDoor.Size
end

/- The contract of (*Heap).place. -/
section
namespace Go.Proofs.YtlibdhnlmekmhaaGreatDoor.Place
set_option maxRecDepth 100000
open Go.RowKit
open Go.Proofs.YtlibdhnlmekmhaaGreatDoor.Own Go.Proofs.YtlibdhnlmekmhaaGreatDoor.Hp Go.Proofs.YtlibdhnlmekmhaaGreatDoor.HeapOrd Go.Proofs.YtlibdhnlmekmhaaGreatDoor.Rep Go.Proofs.YtlibdhnlmekmhaaGreatDoor.Base Go.Proofs.YtlibdhnlmekmhaaGreatDoor.Get Go.Proofs.YtlibdhnlmekmhaaGreatDoor.Meth Go.Proofs.YtlibdhnlmekmhaaGreatDoor.Quick Go.Proofs.YtlibdhnlmekmhaaGreatDoor.Size Go.Proofs.YtlibdhnlmekmhaaGreatDoor.Nums

theorem object_info : (Tryz.prog.info? 148).map (fun i => (i.zero, i.size, i.bytes)) = some (some .nilIface, 1, 16) := by kernel_rfl

theorem one_cell (w : World) (v : Value) (t : TypeId) : ∀ j u, [v][j]? = some u → (w.alloc (.cells #[v] t)).cell? ((⟨w.heap.size, 0, none⟩ : Addr).add j) = some u := by
  intro j x hj
  cases j with
  | zero =>
    simp at hj
    subst hj
    exact (Blk.new w #[v] t).cell 0 _ rfl
  | succ j => simp at hj
theorem one_one {v : Value} (h : v.oneCell' = true) : ∀ u ∈ [v], u.oneCell' = true := by
  intro x hx
  simp at hx
  subst hx
  exact h

/-- What place leaves where no number is free. -/
structure PlacedEnd (w w' : World) (base hp m : Nat) (l fv u ov ov' : Value) (vals : List Value) (v : Value) : Prop where
  blk : Blk w' hp #[l, ov', fv, u] 105
  row : w'.ownsRow base 148 1 ov' (m + 1) (vals ++ [v])
  keeps : Keeps (fun b => b = hp ∨ ov.ownBlock = some b) w w'
  place : ∀ b, ov'.ownBlock = some b → ov.ownBlock = some b ∨ w.heap.size ≤ b

set_option maxHeartbeats 4000000 in
theorem place_end (base hp m c : Nat) (A : Option Addr) (ti : TypeId) (l u ov pv : Value) (vals : List Value) (w : World) (hm : m ≤ 65536) (hB : Blk w hp #[l, ov, .slice A 0 c, u] 105) (hown : w.ownsRow base 148 1 ov m vals)
    (hb : base ≤ w.heap.size) (hne : ov.ownBlock ≠ some hp) :
    Calls Tryz.prog 157 #[ptr hp, .iface ti pv] w fun e w' => e = .returned (.int .i64 (m : Int)) ∧ ∃ ov', PlacedEnd w w' base hp m l (.slice A 0 c) u ov ov' vals (.iface ti pv) := by
  obtain ⟨i0, hi, hz0, hz1, hz2⟩ := info_parts object_info
  have HI := Lib.hid hi
  have HZ0 := Lib.hid hz0
  have HZ1 := Lib.hid hz1
  have HZ2 := Lib.hid hz2
  obtain ⟨c0, c1, c2, c3⟩ := hB.four
  have c11 := more c1
  have HOw := Lib.hid hown
  have HNe := Lib.hid hne
  have HB := Lib.hid hB
  clear hi hz0 hz1 hz2 hown hne hB
  go_enter Tryz.func157, Tryz.ntmps157
  go_wp2_with (at_builtin; refine wpList_append_place rfl (.tmp 16) (.tmp 18) 102 rfl base 148 i0 .nilIface 1 16 Tryz.underlying102 HI.out HZ0.out HZ1.out HZ2.out rfl (by decide) ov m vals rfl (HOw.out.alloc _) ⟨w.heap.size, 0, none⟩ 1 1 [.iface ti pv] rfl rfl (one_cell w _ _) (one_one rfl) (by as_aux_lemma => (unfold maxLen; omega)) (by as_aux_lemma => omega) (by as_aux_lemma => (simp; omega)) ?_)
  intro A' c' w1 hap
  have hk : Keeps (fun b => ov.ownBlock = some b) w w1 := keeps_push (w := w) (o := .cells #[.iface ti pv] 148) hap.grown rfl rfl rfl rfl
  have hpl : ∀ b, (Value.slice A' (m + 1) c').ownBlock = some b → ov.ownBlock = some b ∨ w.heap.size ≤ b := fun b hb => by
    rcases hap.place b hb with h | h
    · exact .inl h
    · exact .inr (by subst h; exact alloc_le _ _)
  have hB1 := HB.out.keeps hk HNe.out
  have hne2 : (Value.slice A' (m + 1) c').ownBlock ≠ some hp := fun e => by
    rcases hpl hp e with h | h
    · exact HNe.out h
    · have := HB.out.lt; omega
  have hfin : PlacedEnd w (w1.setCell ⟨hp, 1, none⟩ (.slice A' (m + 1) c')) base hp m l (.slice A 0 c) u ov (.slice A' (m + 1) c') vals (.iface ti pv) :=
    ⟨hB1.set 1 _, owns_keeps hap.row ((Keeps.refl (fun b => b = hp) w1).setCell ⟨hp, 1, none⟩ _ fun _ => rfl) fun b hb e => hne2 (e ▸ hb), (hk.mono fun b _ e => .inr e).setCell ⟨hp, 1, none⟩ _ fun _ => .inl rfl, hpl⟩
  have HF := Lib.hid hfin
  obtain ⟨d0, d1, d2, d3⟩ := hB1.four
  have f1 := hB1.free
  clear hfin hap hk hpl hne2 hB1 c0 c1 c2 c3 c11
  go_wp2_with fail
  go_ret
  exact ⟨by simp, _, HF.out⟩

/-- What place leaves where a number was free. -/
structure PlacedHole (w w' : World) (base hp m n g c go co k : Nat) (l u : Value) (vals : List Value) (v : Value) (f f' : Nat → Nat) : Prop where
  blk : Blk w' hp #[l, .slice (some ⟨go, 0, none⟩) m co, .slice (some ⟨g, 0, none⟩) n c, u] 105
  row : w'.ownsRow base 148 1 (.slice (some ⟨go, 0, none⟩) m co) m (vals.set k v)
  free : w'.ownsRow base 3 1 (.slice (some ⟨g, 0, none⟩) n c) n (fcells n f')
  keeps : Keeps (fun b => b = hp ∨ b = g ∨ b = go) w w'
  sames : Sames (n + 1) f f'
  last : f' n = k
  ord : Ord f' n

set_option maxHeartbeats 4000000 in
theorem place_hole (base hp m n g c go co : Nat) (ti : TypeId) (l u pv : Value) (vals : List Value) (f : Nat → Nat) (w : World) (_hm : m ≤ 65536) (hn : n ≤ 65536) (hB : Blk w hp #[l, .slice (some ⟨go, 0, none⟩) m co, .slice (some ⟨g, 0, none⟩) (n + 1) c, u] 105)
    (hown : w.ownsRow base 148 1 (.slice (some ⟨go, 0, none⟩) m co) m vals) (hfree : w.ownsRow base 3 1 (.slice (some ⟨g, 0, none⟩) (n + 1) c) (n + 1) (fcells (n + 1) f))
    (hne : hp ≠ g) (hne2 : hp ≠ go) (hne3 : g ≠ go) (ho : Ord f (n + 1)) (hk : f 0 < m) :
    Calls Tryz.prog 157 #[ptr hp, .iface ti pv] w fun e w' => e = .returned (.int .i64 (f 0 : Int)) ∧ ∃ f', PlacedHole w w' base hp m n g c go co (f 0) l u vals (.iface ti pv) f f' := by
  obtain ⟨c0, c1, c2, c3⟩ := hB.four
  have hL := least_any base hp 2 n g c f _ _ w hn hB rfl hfree hne ho
  obtain ⟨k, hk0⟩ : ∃ k, f 0 = k := ⟨_, rfl⟩
  rw [hk0] at hL hk ⊢
  have HK := Lib.hid hk0
  have HL := Lib.hid hL
  have HOw := Lib.hid hown
  have HN := Lib.hid (And.intro hne2 hne3)
  have hz : ((n : Int) + 1 == 0) = false := beq_eq_false_iff_ne.2 (by omega)
  clear hL hown hne hne2 hne3 ho hfree hB hk0
  go_enter Tryz.func157, Tryz.ntmps157
  go_wp2_with fail
  refine HL.out.mono ?_
  rintro e w1 ⟨rfl, f', hT⟩
  obtain ⟨d0, d1, d2, d3⟩ := hT.blk.four
  have hO1 := owns_keeps HOw.out hT.keeps (fun b hb e => by
    simp only [Value.ownBlock, Option.some.injEq] at hb
    rcases e with e | e
    · exact HN.out.1 (by rw [hb]; exact e.symm)
    · exact HN.out.2 (by rw [hb]; exact e.symm))
  have hr := Row.of_owns hO1
  have hlen : vals.length = m := by have := hO1.1; omega
  have hcv : w1.cell? ⟨go, k, none⟩ = some (vals[k]'(by omega)) := hr.cell k _ (List.getElem?_eq_getElem (by omega))
  have hfr := hr.free k
  have hfin : PlacedHole w (w1.setCell ⟨go, k, none⟩ (.iface ti pv)) base hp m n g c go co k l u vals (.iface ti pv) f f' :=
    ⟨hT.blk.setOther _ _ (fun e => HN.out.1 e.symm), owns_set hO1 k _, owns_keeps hT.row ((Keeps.refl (fun b => b = go) w1).setCell ⟨go, k, none⟩ _ fun _ => rfl) (fun b hb e => by
      simp only [Value.ownBlock, Option.some.injEq] at hb
      exact HN.out.2 (by rw [hb]; exact e)), (hT.keeps.mono fun b _ e => by rcases e with e | e; exact .inl e; exact .inr (.inl e)).setCell ⟨go, k, none⟩ _ fun _ => .inr (.inr rfl), hT.sames, by rw [hT.last, HK.out], hT.ord⟩
  have HF := Lib.hid hfin
  obtain ⟨x, hx⟩ : ∃ x, vals[k]'(by omega) = x := ⟨_, rfl⟩
  rw [hx] at hcv
  clear hfin hT hO1 hr hx c0 c1 c2 c3
  go_wp2_with fail
  go_ret
  exact ⟨rfl, f', HF.out⟩
end Go.Proofs.YtlibdhnlmekmhaaGreatDoor.Place
end

/- The contracts of (*Heap).place and add over a heap. -/
section
namespace Go.Proofs.YtlibdhnlmekmhaaGreatDoor.Add
set_option maxRecDepth 100000
open Go.RowKit
open Go.Proofs.YtlibdhnlmekmhaaGreatDoor.Own Go.Proofs.YtlibdhnlmekmhaaGreatDoor.Hp Go.Proofs.YtlibdhnlmekmhaaGreatDoor.HeapOrd Go.Proofs.YtlibdhnlmekmhaaGreatDoor.Rep Go.Proofs.YtlibdhnlmekmhaaGreatDoor.Base Go.Proofs.YtlibdhnlmekmhaaGreatDoor.Get Go.Proofs.YtlibdhnlmekmhaaGreatDoor.Meth Go.Proofs.YtlibdhnlmekmhaaGreatDoor.Quick Go.Proofs.YtlibdhnlmekmhaaGreatDoor.Size Go.Proofs.YtlibdhnlmekmhaaGreatDoor.Nums Go.Proofs.YtlibdhnlmekmhaaGreatDoor.Place

/-- What a change of a heap keeps: all blocks but the heap's own. -/
structure After (w w' : World) (lab lab' : Nat → Option Lab) : Prop where
  keeps : Keeps (Of lab) w w'
  grow : ∀ b, Of lab' b → Of lab b ∨ w.heap.size ≤ b
theorem After.refl (w : World) (lab : Nat → Option Lab) : After w w lab lab := ⟨.refl _ _, fun _ h => .inl h⟩
theorem After.trans {a b c : World} {l m n : Nat → Option Lab} (h : After a b l m) (k : After b c m n) : After a c l n :=
  ⟨h.keeps.then k.keeps fun x hx hf => by rcases h.grow x hf with h1 | h1; exact h1; omega, fun x hx => by
    rcases k.grow x hx with h1 | h1
    · exact h.grow x h1
    · exact .inr (Nat.le_trans h.keeps.size h1)⟩
theorem After.below {a b : World} {l : Nat → Option Lab} (h : Below a.heap.size a b) : After a b l l := ⟨.of_below h, fun _ h => .inl h⟩

theorem some_iface {w : World} {lab : Nat → Option Lab} {n : Nat} {v : Value} {o : Ob} (h : ObAt w lab n v (some o)) : ∃ t p, v = .iface t p := by
  cases o with
  | cons a d => obtain ⟨g, rfl, _⟩ := h; exact ⟨_, _, rfl⟩
  | text s k => obtain ⟨g, rfl, _⟩ := h; exact ⟨_, _, rfl⟩
  | vec l => obtain ⟨g, r, rfl, _⟩ := h; exact ⟨_, _, rfl⟩
  | code p q z b l => obtain ⟨g, rb, rl, rfl, _⟩ := h; exact ⟨_, _, rfl⟩

/-- What place leaves. -/
def PlaceOk (w w' : World) (base hp lim : Nat) (ob : Obs) (lab : Nat → Option Lab) (o : Ob) (u : Value) : Prop :=
  ∃ lab' P', HeapU w' base hp lim (put ob (freeTo ob lim) (some o)) lab' P' u ∧ After w w' lab lab'
theorem place_any {w : World} {base hp lim : Nat} {ob : Obs} {lab : Nat → Option Lab} {P : Parts} {u v : Value} {o : Ob} (h : HeapU w base hp lim ob lab P u) (hb : base ≤ w.heap.size) (hfull : freeTo ob lim < lim)
    (ho : ObAt w lab (freeTo ob lim) v (some o)) (hs : Small (some o)) :
    Calls Tryz.prog 157 #[ptr hp, v] w fun e w' => e = .returned (.int .i64 (freeTo ob lim : Int)) ∧ PlaceOk w w' base hp lim ob lab o u := by
  obtain ⟨ti, pv, rfl⟩ := some_iface ho
  have hm := h.m
  have hl2 := h.lim2
  by_cases hnf : P.nf = 0
  · have he := h.free_end hnf hfull
    have hlt := h.notFull hfull hnf
    obtain ⟨A, c, hfv⟩ := slice_of' h.free
    rw [hnf] at hfv
    have hne : P.ov.ownBlock ≠ some hp := fun e => by have := h.olab hp e; rw [h.hdr] at this; cases this
    have hB := h.blk
    rw [hfv] at hB
    unfold PlaceOk
    rw [he] at ho ⊢
    refine (place_end base hp P.m c A ti _ u P.ov pv P.vals w (by omega) hB h.objs hb hne).mono ?_
    rintro e w' ⟨rfl, ov', hp'⟩
    rw [← hfv] at hp'
    refine ⟨rfl, _, _, h.placeEnd hnf hlt hp'.blk hp'.row hp'.keeps hp'.place hb ho hs, ?_, ?_⟩
    · exact hp'.keeps.mono fun k hk e => by
        rcases e with e | e
        · subst e; unfold Of; rw [h.hdr]; simp
        · unfold Of; rw [h.olab k e]; simp
    · intro b hb'
      have hb' : (if ov'.ownBlock = some b then some Lab.objs else lab b) ≠ none := hb'
      split at hb'
      · rename_i e
        rcases hp'.place b e with e | e
        · exact .inl (by unfold Of; rw [h.olab b e]; simp)
        · exact .inr e
      · exact .inl hb'
  · obtain ⟨n, hn⟩ : ∃ n, P.nf = n + 1 := ⟨P.nf - 1, by omega⟩
    obtain ⟨he, hf0, hfn⟩ := h.free_hole (by omega)
    obtain ⟨go, co, hov⟩ : ∃ go co, P.ov = .slice (some ⟨go, 0, none⟩) P.m co := by
      rcases h.objs.2 with ⟨_, h0⟩ | ⟨g, cap, cur, hv, _⟩
      · omega
      · exact ⟨g, cap, hv⟩
    obtain ⟨g, c, hfv⟩ : ∃ g c, P.fv = .slice (some ⟨g, 0, none⟩) (n + 1) c := by
      rcases h.free.2 with ⟨_, h0⟩ | ⟨g, cap, cur, hv, _⟩
      · omega
      · exact ⟨g, cap, by rw [hv, hn]⟩
    have lo : lab go = some .objs := h.olab go (by rw [hov]; rfl)
    have lf : lab g = some .free := h.flab g (by rw [hfv]; rfl)
    have hB := h.blk
    rw [hfv, hov] at hB
    have hobj := h.objs
    rw [hov] at hobj
    have hfree := h.free
    rw [hfv, hn] at hfree
    have hord := h.ord
    rw [hn] at hord
    have hnm : P.nf ≤ 65536 := by
      have h1 := count_of_row P.f P.nf P.m (fun x => (ob x).isNone) h.inj fun x => by rw [h.holes x]; simp
      have h2 := List.length_filter_le (fun x => (ob x).isNone) (List.range P.m)
      rw [List.length_range] at h2
      omega
    unfold PlaceOk
    rw [he] at ho ⊢
    refine (place_hole base hp P.m n g c go co ti _ u pv P.vals P.f w (by omega) (by omega) hB hobj hfree (fun e => by subst e; rw [h.hdr] at lf; cases lf) (fun e => by subst e; rw [h.hdr] at lo; cases lo) (fun e => by subst e; rw [lf] at lo; cases lo) hord hf0).mono ?_
    rintro e w' ⟨rfl, f', hp'⟩
    refine ⟨rfl, _, _, h.placeHole hn hov hfv hp'.blk hp'.row hp'.free hp'.keeps hp'.sames hp'.last hp'.ord ho hs, ?_, fun b hb => .inl hb⟩
    exact hp'.keeps.mono fun k hk e => by
      rcases e with e | e | e
      · subst e; unfold Of; rw [h.hdr]; simp
      · subst e; unfold Of; rw [lf]; simp
      · subst e; unfold Of; rw [lo]; simp


set_option maxHeartbeats 4000000 in
theorem add_full (hp lim : Nat) (v : Value) (w : World) (hM : Draws w 25 #[ptr hp] (.int .i64 (lim : Int)))
   (h0 : w.cell? ⟨hp, 0, none⟩ = some (.int .i64 (lim : Int))) :
   Calls Tryz.prog 105 #[ptr hp, v] w fun e w' => e = .returned (.tuple #[wd (0, 0), .int .i64 7]) ∧ Below w.heap.size w w' := by
  have hb1 : Below w.heap.size w (w.alloc (.cells #[.int .i64 0, .int .i64 0] 28)) := (Below.refl _ _).alloc (Nat.le_refl _) _
  have hQ := fun q => hM.quiet (Go.Proofs.YtlibdhnlmekmhaaGreatDoor.Own.below_drewN hb1 q)
  have HQ := Lib.hid hQ
  have h01 := more h0
  clear hM hQ
  go_enter Tryz.func105, Tryz.ntmps105
  go_wp2
  go_quiet ((go_at_call 25; exact HQ.out _))
  go_wp2
  refine bodyPost_ret (v := .tuple #[wd (0, 0), .int .i64 7]) (by simp [results, Tryz.results105, go_sem]) rfl ⟨rfl, ?_⟩
  exact ((Go.Proofs.YtlibdhnlmekmhaaGreatDoor.Own.below_drewN hb1 _).setCell (by simp) _).setCell (by simp) _

set_option maxHeartbeats 4000000 in
theorem add_cons_over (hp lim M u g s : Nat) (w : World) (hM : Draws w 25 #[ptr hp] (.int .i64 (M : Int))) (hR : Draws w 155 #[ptr hp] (.int .i64 (1048576 - (u : Int)))) (hS : Draws w 286 #[ptr g] (.int .i64 (s : Int)))
    (_hu : u ≤ 1048576) (_hs0 : s ≤ 1048576) (hml : M < lim) (h0 : w.cell? ⟨hp, 0, none⟩ = some (.int .i64 (lim : Int))) (hov : 1048576 < u + s) :
    Calls Tryz.prog 105 #[ptr hp, .iface 93 (ptr g)] w fun e w' => e = .returned (.tuple #[wd (0, 0), .int .i64 7]) ∧ Below w.heap.size w w' := by
  have hb1 : Below w.heap.size w (w.alloc (.cells #[.int .i64 0, .int .i64 0] 28)) := (Below.refl _ _).alloc (Nat.le_refl _) _
  have HQ := Lib.hid (fun q => hM.quiet (Go.Proofs.YtlibdhnlmekmhaaGreatDoor.Own.below_drewN hb1 q))
  have HQR := Lib.hid (fun q => hR.quiet (Go.Proofs.YtlibdhnlmekmhaaGreatDoor.Own.below_drewN hb1 q))
  have HQS := Lib.hid (fun q => hS.quiet (Go.Proofs.YtlibdhnlmekmhaaGreatDoor.Own.below_drewN hb1 q))
  have hm := fun w => meth_cons ⟨g, 0, none⟩ w
  have h01 := more h0
  have hd : (M == lim) = false := beq_eq_false_iff_ne.2 (by omega)
  have hd0 : ((M : Int) == (lim : Int)) = false := beq_eq_false_iff_ne.2 (by omega)
  have hd2 : decide (1048576 - (u : Int) < s) = true := decide_eq_true (by omega)
  clear hM hR hS
  go_enter Tryz.func105, Tryz.ntmps105
  go_wp2
  go_quiet ((first | (go_at_call 25; exact HQ.out _) | (go_at_call 155; exact HQR.out _) | (go_at_call 286; exact HQS.out _)))
  go_wp2
  refine bodyPost_ret (v := .tuple #[wd (0, 0), .int .i64 7]) (by simp [results, Tryz.results105, go_sem]) rfl ⟨rfl, ?_⟩
  exact ((Go.Proofs.YtlibdhnlmekmhaaGreatDoor.Own.below_drewN hb1 _).setCell (by simp) _).setCell (by simp) _

set_option maxHeartbeats 8000000 in
theorem add_cons_fits (hp lim M u g s n : Nat) (Pok : World → World → Prop) (w : World) (hM : Draws w 25 #[ptr hp] (.int .i64 (M : Int))) (hR : Draws w 155 #[ptr hp] (.int .i64 (1048576 - (u : Int)))) (hS : Draws w 286 #[ptr g] (.int .i64 (s : Int)))
    (hu : u ≤ 1048576) (hs0 : s ≤ 1048576) (hml : M < lim) (h0 : w.cell? ⟨hp, 0, none⟩ = some (.int .i64 (lim : Int))) (hov : u + s ≤ 1048576)
    (h3 : w.cell? ⟨hp, 3, none⟩ = some (.int .i64 (u : Int))) (hf : w.frozen? ⟨hp, 3, none⟩ = false)
    (hP : ∀ q w1, w1 = ((w.alloc (.cells #[.int .i64 0, .int .i64 0] 28)).drewN q).setCell ⟨hp, 3, none⟩ (.int .i64 ((u : Int) + s)) → Calls Tryz.prog 157 #[ptr hp, .iface 93 (ptr g)] w1 fun e w2 => e = .returned (.int .i64 (n : Int)) ∧ Blk w2 w.heap.size #[.int .i64 0, .int .i64 0] 28 ∧ Pok w1 w2) :
    Calls Tryz.prog 105 #[ptr hp, .iface 93 (ptr g)] w fun e w' => e = .returned (.tuple #[wd (2, (n : Int)), .int .i64 0]) ∧ ∃ q w2, Pok (((w.alloc (.cells #[.int .i64 0, .int .i64 0] 28)).drewN q).setCell ⟨hp, 3, none⟩ (.int .i64 ((u : Int) + s))) w2 ∧ w' = (w2.setCell ⟨w.heap.size, 0, none⟩ (.int .i64 2)).setCell ⟨w.heap.size, 1, none⟩ (.int .i64 (n : Int)) := by
  have hb1 : Below w.heap.size w (w.alloc (.cells #[.int .i64 0, .int .i64 0] 28)) := (Below.refl _ _).alloc (Nat.le_refl _) _
  have HQ := Lib.hid (fun q => hM.quiet (Go.Proofs.YtlibdhnlmekmhaaGreatDoor.Own.below_drewN hb1 q))
  have HQR := Lib.hid (fun q => hR.quiet (Go.Proofs.YtlibdhnlmekmhaaGreatDoor.Own.below_drewN hb1 q))
  have HQS := Lib.hid (fun q => hS.quiet (Go.Proofs.YtlibdhnlmekmhaaGreatDoor.Own.below_drewN hb1 q))
  have hm := fun w => meth_cons ⟨g, 0, none⟩ w
  have h01 := more h0
  have hd : (M == lim) = false := beq_eq_false_iff_ne.2 (by omega)
  have hd0 : ((M : Int) == (lim : Int)) = false := beq_eq_false_iff_ne.2 (by omega)
  have hd2 : decide (1048576 - (u : Int) < s) = false := decide_eq_false (by omega)
  have h31 := more h3
  have hf1 : ∀ o, (w.alloc o).frozen? ⟨hp, 3, none⟩ = false := fun o => (((Below.refl _ _).alloc (Nat.le_refl _) o).frozen (World.block_lt_of_cell? _ _ h3)).trans hf
  have hw : IntKind.i64.wrap ((u : Int) + (s : Int)) = (u : Int) + (s : Int) := IntWalk.i64_in _ (by omega)
  have HP := Lib.hid hP
  have hS1 := Lib.hid (fun q => hS.out ((w.alloc (.cells #[.int .i64 0, .int .i64 0] 28)).drewN q) (Go.Proofs.YtlibdhnlmekmhaaGreatDoor.Own.below_drewN hb1 q))
  have HK := Lib.hid (fun w => kind_cons (ptr g) w)
  clear hM hR hS hP
  go_enter Tryz.func105, Tryz.ntmps105
  go_wp2
  go_quiet ((first | (go_at_call 25; exact HQ.out _) | (go_at_call 155; exact HQR.out _) | (go_at_call 286; exact HQS.out _)))
  go_wp2
  go_region_with ((go_at_call 286; refine (hS1.out _).mono ?_; rintro e w' ⟨rfl, qs, rfl⟩))
  all_goals
    go_wp2_with (go_at_call 156; refine (HK.out _).mono ?_; rintro e w' ⟨rfl, rfl⟩)
    refine (HP.out _ _ rfl).mono ?_
    rintro e w2 ⟨rfl, hblk, hok⟩
    obtain ⟨b0, b1, e0, e1⟩ := hblk.two
    have HOk := Lib.hid hok
    clear hok hblk
    go_wp2_with fail
    refine bodyPost_ret (v := .tuple #[wd (2, (n : Int)), .int .i64 0]) (by simp [results, Tryz.results105, go_sem, b0, b1]) rfl ⟨rfl, _, w2, HOk.out, rfl⟩

set_option maxHeartbeats 4000000 in
theorem add_text_over (hp lim M u g s : Nat) (w : World) (hM : Draws w 25 #[ptr hp] (.int .i64 (M : Int))) (hR : Draws w 155 #[ptr hp] (.int .i64 (1048576 - (u : Int)))) (hS : Draws w 290 #[ptr g] (.int .i64 (s : Int)))
    (_hu : u ≤ 1048576) (_hs0 : s ≤ 1048576) (hml : M < lim) (h0 : w.cell? ⟨hp, 0, none⟩ = some (.int .i64 (lim : Int))) (hov : 1048576 < u + s) :
    Calls Tryz.prog 105 #[ptr hp, .iface 110 (ptr g)] w fun e w' => e = .returned (.tuple #[wd (0, 0), .int .i64 7]) ∧ Below w.heap.size w w' := by
  have hb1 : Below w.heap.size w (w.alloc (.cells #[.int .i64 0, .int .i64 0] 28)) := (Below.refl _ _).alloc (Nat.le_refl _) _
  have HQ := Lib.hid (fun q => hM.quiet (Go.Proofs.YtlibdhnlmekmhaaGreatDoor.Own.below_drewN hb1 q))
  have HQR := Lib.hid (fun q => hR.quiet (Go.Proofs.YtlibdhnlmekmhaaGreatDoor.Own.below_drewN hb1 q))
  have HQS := Lib.hid (fun q => hS.quiet (Go.Proofs.YtlibdhnlmekmhaaGreatDoor.Own.below_drewN hb1 q))
  have hm := fun w => meth_text ⟨g, 0, none⟩ w
  have h01 := more h0
  have hd : (M == lim) = false := beq_eq_false_iff_ne.2 (by omega)
  have hd0 : ((M : Int) == (lim : Int)) = false := beq_eq_false_iff_ne.2 (by omega)
  have hd2 : decide (1048576 - (u : Int) < s) = true := decide_eq_true (by omega)
  clear hM hR hS
  go_enter Tryz.func105, Tryz.ntmps105
  go_wp2
  go_quiet ((first | (go_at_call 25; exact HQ.out _) | (go_at_call 155; exact HQR.out _) | (go_at_call 290; exact HQS.out _)))
  go_wp2
  refine bodyPost_ret (v := .tuple #[wd (0, 0), .int .i64 7]) (by simp [results, Tryz.results105, go_sem]) rfl ⟨rfl, ?_⟩
  exact ((Go.Proofs.YtlibdhnlmekmhaaGreatDoor.Own.below_drewN hb1 _).setCell (by simp) _).setCell (by simp) _

set_option maxHeartbeats 8000000 in
theorem add_text_fits (hp lim M u g s n : Nat) (Pok : World → World → Prop) (w : World) (hM : Draws w 25 #[ptr hp] (.int .i64 (M : Int))) (hR : Draws w 155 #[ptr hp] (.int .i64 (1048576 - (u : Int)))) (hS : Draws w 290 #[ptr g] (.int .i64 (s : Int)))
    (hu : u ≤ 1048576) (hs0 : s ≤ 1048576) (hml : M < lim) (h0 : w.cell? ⟨hp, 0, none⟩ = some (.int .i64 (lim : Int))) (hov : u + s ≤ 1048576)
    (h3 : w.cell? ⟨hp, 3, none⟩ = some (.int .i64 (u : Int))) (hf : w.frozen? ⟨hp, 3, none⟩ = false)
    (hP : ∀ q w1, w1 = ((w.alloc (.cells #[.int .i64 0, .int .i64 0] 28)).drewN q).setCell ⟨hp, 3, none⟩ (.int .i64 ((u : Int) + s)) → Calls Tryz.prog 157 #[ptr hp, .iface 110 (ptr g)] w1 fun e w2 => e = .returned (.int .i64 (n : Int)) ∧ Blk w2 w.heap.size #[.int .i64 0, .int .i64 0] 28 ∧ Pok w1 w2) :
    Calls Tryz.prog 105 #[ptr hp, .iface 110 (ptr g)] w fun e w' => e = .returned (.tuple #[wd (3, (n : Int)), .int .i64 0]) ∧ ∃ q w2, Pok (((w.alloc (.cells #[.int .i64 0, .int .i64 0] 28)).drewN q).setCell ⟨hp, 3, none⟩ (.int .i64 ((u : Int) + s))) w2 ∧ w' = (w2.setCell ⟨w.heap.size, 0, none⟩ (.int .i64 3)).setCell ⟨w.heap.size, 1, none⟩ (.int .i64 (n : Int)) := by
  have hb1 : Below w.heap.size w (w.alloc (.cells #[.int .i64 0, .int .i64 0] 28)) := (Below.refl _ _).alloc (Nat.le_refl _) _
  have HQ := Lib.hid (fun q => hM.quiet (Go.Proofs.YtlibdhnlmekmhaaGreatDoor.Own.below_drewN hb1 q))
  have HQR := Lib.hid (fun q => hR.quiet (Go.Proofs.YtlibdhnlmekmhaaGreatDoor.Own.below_drewN hb1 q))
  have HQS := Lib.hid (fun q => hS.quiet (Go.Proofs.YtlibdhnlmekmhaaGreatDoor.Own.below_drewN hb1 q))
  have hm := fun w => meth_text ⟨g, 0, none⟩ w
  have h01 := more h0
  have hd : (M == lim) = false := beq_eq_false_iff_ne.2 (by omega)
  have hd0 : ((M : Int) == (lim : Int)) = false := beq_eq_false_iff_ne.2 (by omega)
  have hd2 : decide (1048576 - (u : Int) < s) = false := decide_eq_false (by omega)
  have h31 := more h3
  have hf1 : ∀ o, (w.alloc o).frozen? ⟨hp, 3, none⟩ = false := fun o => (((Below.refl _ _).alloc (Nat.le_refl _) o).frozen (World.block_lt_of_cell? _ _ h3)).trans hf
  have hw : IntKind.i64.wrap ((u : Int) + (s : Int)) = (u : Int) + (s : Int) := IntWalk.i64_in _ (by omega)
  have HP := Lib.hid hP
  have hS1 := Lib.hid (fun q => hS.out ((w.alloc (.cells #[.int .i64 0, .int .i64 0] 28)).drewN q) (Go.Proofs.YtlibdhnlmekmhaaGreatDoor.Own.below_drewN hb1 q))
  have HK := Lib.hid (fun w => kind_text (ptr g) w)
  clear hM hR hS hP
  go_enter Tryz.func105, Tryz.ntmps105
  go_wp2
  go_quiet ((first | (go_at_call 25; exact HQ.out _) | (go_at_call 155; exact HQR.out _) | (go_at_call 290; exact HQS.out _)))
  go_wp2
  go_region_with ((go_at_call 290; refine (hS1.out _).mono ?_; rintro e w' ⟨rfl, qs, rfl⟩))
  all_goals
    go_wp2_with (go_at_call 156; refine (HK.out _).mono ?_; rintro e w' ⟨rfl, rfl⟩)
    refine (HP.out _ _ rfl).mono ?_
    rintro e w2 ⟨rfl, hblk, hok⟩
    obtain ⟨b0, b1, e0, e1⟩ := hblk.two
    have HOk := Lib.hid hok
    clear hok hblk
    go_wp2_with fail
    refine bodyPost_ret (v := .tuple #[wd (3, (n : Int)), .int .i64 0]) (by simp [results, Tryz.results105, go_sem, b0, b1]) rfl ⟨rfl, _, w2, HOk.out, rfl⟩

set_option maxHeartbeats 4000000 in
theorem add_vector_over (hp lim M u g s : Nat) (w : World) (hM : Draws w 25 #[ptr hp] (.int .i64 (M : Int))) (hR : Draws w 155 #[ptr hp] (.int .i64 (1048576 - (u : Int)))) (hS : Draws w 293 #[ptr g] (.int .i64 (s : Int)))
    (_hu : u ≤ 1048576) (_hs0 : s ≤ 1048576) (hml : M < lim) (h0 : w.cell? ⟨hp, 0, none⟩ = some (.int .i64 (lim : Int))) (hov : 1048576 < u + s) :
    Calls Tryz.prog 105 #[ptr hp, .iface 189 (ptr g)] w fun e w' => e = .returned (.tuple #[wd (0, 0), .int .i64 7]) ∧ Below w.heap.size w w' := by
  have hb1 : Below w.heap.size w (w.alloc (.cells #[.int .i64 0, .int .i64 0] 28)) := (Below.refl _ _).alloc (Nat.le_refl _) _
  have HQ := Lib.hid (fun q => hM.quiet (Go.Proofs.YtlibdhnlmekmhaaGreatDoor.Own.below_drewN hb1 q))
  have HQR := Lib.hid (fun q => hR.quiet (Go.Proofs.YtlibdhnlmekmhaaGreatDoor.Own.below_drewN hb1 q))
  have HQS := Lib.hid (fun q => hS.quiet (Go.Proofs.YtlibdhnlmekmhaaGreatDoor.Own.below_drewN hb1 q))
  have hm := fun w => meth_vector ⟨g, 0, none⟩ w
  have h01 := more h0
  have hd : (M == lim) = false := beq_eq_false_iff_ne.2 (by omega)
  have hd0 : ((M : Int) == (lim : Int)) = false := beq_eq_false_iff_ne.2 (by omega)
  have hd2 : decide (1048576 - (u : Int) < s) = true := decide_eq_true (by omega)
  clear hM hR hS
  go_enter Tryz.func105, Tryz.ntmps105
  go_wp2
  go_quiet ((first | (go_at_call 25; exact HQ.out _) | (go_at_call 155; exact HQR.out _) | (go_at_call 293; exact HQS.out _)))
  go_wp2
  refine bodyPost_ret (v := .tuple #[wd (0, 0), .int .i64 7]) (by simp [results, Tryz.results105, go_sem]) rfl ⟨rfl, ?_⟩
  exact ((Go.Proofs.YtlibdhnlmekmhaaGreatDoor.Own.below_drewN hb1 _).setCell (by simp) _).setCell (by simp) _

set_option maxHeartbeats 8000000 in
theorem add_vector_fits (hp lim M u g s n : Nat) (Pok : World → World → Prop) (w : World) (hM : Draws w 25 #[ptr hp] (.int .i64 (M : Int))) (hR : Draws w 155 #[ptr hp] (.int .i64 (1048576 - (u : Int)))) (hS : Draws w 293 #[ptr g] (.int .i64 (s : Int)))
    (hu : u ≤ 1048576) (hs0 : s ≤ 1048576) (hml : M < lim) (h0 : w.cell? ⟨hp, 0, none⟩ = some (.int .i64 (lim : Int))) (hov : u + s ≤ 1048576)
    (h3 : w.cell? ⟨hp, 3, none⟩ = some (.int .i64 (u : Int))) (hf : w.frozen? ⟨hp, 3, none⟩ = false)
    (hP : ∀ q w1, w1 = ((w.alloc (.cells #[.int .i64 0, .int .i64 0] 28)).drewN q).setCell ⟨hp, 3, none⟩ (.int .i64 ((u : Int) + s)) → Calls Tryz.prog 157 #[ptr hp, .iface 189 (ptr g)] w1 fun e w2 => e = .returned (.int .i64 (n : Int)) ∧ Blk w2 w.heap.size #[.int .i64 0, .int .i64 0] 28 ∧ Pok w1 w2) :
    Calls Tryz.prog 105 #[ptr hp, .iface 189 (ptr g)] w fun e w' => e = .returned (.tuple #[wd (4, (n : Int)), .int .i64 0]) ∧ ∃ q w2, Pok (((w.alloc (.cells #[.int .i64 0, .int .i64 0] 28)).drewN q).setCell ⟨hp, 3, none⟩ (.int .i64 ((u : Int) + s))) w2 ∧ w' = (w2.setCell ⟨w.heap.size, 0, none⟩ (.int .i64 4)).setCell ⟨w.heap.size, 1, none⟩ (.int .i64 (n : Int)) := by
  have hb1 : Below w.heap.size w (w.alloc (.cells #[.int .i64 0, .int .i64 0] 28)) := (Below.refl _ _).alloc (Nat.le_refl _) _
  have HQ := Lib.hid (fun q => hM.quiet (Go.Proofs.YtlibdhnlmekmhaaGreatDoor.Own.below_drewN hb1 q))
  have HQR := Lib.hid (fun q => hR.quiet (Go.Proofs.YtlibdhnlmekmhaaGreatDoor.Own.below_drewN hb1 q))
  have HQS := Lib.hid (fun q => hS.quiet (Go.Proofs.YtlibdhnlmekmhaaGreatDoor.Own.below_drewN hb1 q))
  have hm := fun w => meth_vector ⟨g, 0, none⟩ w
  have h01 := more h0
  have hd : (M == lim) = false := beq_eq_false_iff_ne.2 (by omega)
  have hd0 : ((M : Int) == (lim : Int)) = false := beq_eq_false_iff_ne.2 (by omega)
  have hd2 : decide (1048576 - (u : Int) < s) = false := decide_eq_false (by omega)
  have h31 := more h3
  have hf1 : ∀ o, (w.alloc o).frozen? ⟨hp, 3, none⟩ = false := fun o => (((Below.refl _ _).alloc (Nat.le_refl _) o).frozen (World.block_lt_of_cell? _ _ h3)).trans hf
  have hw : IntKind.i64.wrap ((u : Int) + (s : Int)) = (u : Int) + (s : Int) := IntWalk.i64_in _ (by omega)
  have HP := Lib.hid hP
  have hS1 := Lib.hid (fun q => hS.out ((w.alloc (.cells #[.int .i64 0, .int .i64 0] 28)).drewN q) (Go.Proofs.YtlibdhnlmekmhaaGreatDoor.Own.below_drewN hb1 q))
  have HK := Lib.hid (fun w => kind_vector (ptr g) w)
  clear hM hR hS hP
  go_enter Tryz.func105, Tryz.ntmps105
  go_wp2
  go_quiet ((first | (go_at_call 25; exact HQ.out _) | (go_at_call 155; exact HQR.out _) | (go_at_call 293; exact HQS.out _)))
  go_wp2
  go_region_with ((go_at_call 293; refine (hS1.out _).mono ?_; rintro e w' ⟨rfl, qs, rfl⟩))
  all_goals
    go_wp2_with (go_at_call 156; refine (HK.out _).mono ?_; rintro e w' ⟨rfl, rfl⟩)
    refine (HP.out _ _ rfl).mono ?_
    rintro e w2 ⟨rfl, hblk, hok⟩
    obtain ⟨b0, b1, e0, e1⟩ := hblk.two
    have HOk := Lib.hid hok
    clear hok hblk
    go_wp2_with fail
    refine bodyPost_ret (v := .tuple #[wd (4, (n : Int)), .int .i64 0]) (by simp [results, Tryz.results105, go_sem, b0, b1]) rfl ⟨rfl, _, w2, HOk.out, rfl⟩

set_option maxHeartbeats 4000000 in
theorem add_code_over (hp lim M u g s : Nat) (w : World) (hM : Draws w 25 #[ptr hp] (.int .i64 (M : Int))) (hR : Draws w 155 #[ptr hp] (.int .i64 (1048576 - (u : Int)))) (hS : Draws w 294 #[ptr g] (.int .i64 (s : Int)))
    (_hu : u ≤ 1048576) (_hs0 : s ≤ 1048576) (hml : M < lim) (h0 : w.cell? ⟨hp, 0, none⟩ = some (.int .i64 (lim : Int))) (hov : 1048576 < u + s) :
    Calls Tryz.prog 105 #[ptr hp, .iface 190 (ptr g)] w fun e w' => e = .returned (.tuple #[wd (0, 0), .int .i64 7]) ∧ Below w.heap.size w w' := by
  have hb1 : Below w.heap.size w (w.alloc (.cells #[.int .i64 0, .int .i64 0] 28)) := (Below.refl _ _).alloc (Nat.le_refl _) _
  have HQ := Lib.hid (fun q => hM.quiet (Go.Proofs.YtlibdhnlmekmhaaGreatDoor.Own.below_drewN hb1 q))
  have HQR := Lib.hid (fun q => hR.quiet (Go.Proofs.YtlibdhnlmekmhaaGreatDoor.Own.below_drewN hb1 q))
  have HQS := Lib.hid (fun q => hS.quiet (Go.Proofs.YtlibdhnlmekmhaaGreatDoor.Own.below_drewN hb1 q))
  have hm := fun w => meth_code ⟨g, 0, none⟩ w
  have h01 := more h0
  have hd : (M == lim) = false := beq_eq_false_iff_ne.2 (by omega)
  have hd0 : ((M : Int) == (lim : Int)) = false := beq_eq_false_iff_ne.2 (by omega)
  have hd2 : decide (1048576 - (u : Int) < s) = true := decide_eq_true (by omega)
  clear hM hR hS
  go_enter Tryz.func105, Tryz.ntmps105
  go_wp2
  go_quiet ((first | (go_at_call 25; exact HQ.out _) | (go_at_call 155; exact HQR.out _) | (go_at_call 294; exact HQS.out _)))
  go_wp2
  refine bodyPost_ret (v := .tuple #[wd (0, 0), .int .i64 7]) (by simp [results, Tryz.results105, go_sem]) rfl ⟨rfl, ?_⟩
  exact ((Go.Proofs.YtlibdhnlmekmhaaGreatDoor.Own.below_drewN hb1 _).setCell (by simp) _).setCell (by simp) _

set_option maxHeartbeats 8000000 in
theorem add_code_fits (hp lim M u g s n : Nat) (Pok : World → World → Prop) (w : World) (hM : Draws w 25 #[ptr hp] (.int .i64 (M : Int))) (hR : Draws w 155 #[ptr hp] (.int .i64 (1048576 - (u : Int)))) (hS : Draws w 294 #[ptr g] (.int .i64 (s : Int)))
    (hu : u ≤ 1048576) (hs0 : s ≤ 1048576) (hml : M < lim) (h0 : w.cell? ⟨hp, 0, none⟩ = some (.int .i64 (lim : Int))) (hov : u + s ≤ 1048576)
    (h3 : w.cell? ⟨hp, 3, none⟩ = some (.int .i64 (u : Int))) (hf : w.frozen? ⟨hp, 3, none⟩ = false)
    (hP : ∀ q w1, w1 = ((w.alloc (.cells #[.int .i64 0, .int .i64 0] 28)).drewN q).setCell ⟨hp, 3, none⟩ (.int .i64 ((u : Int) + s)) → Calls Tryz.prog 157 #[ptr hp, .iface 190 (ptr g)] w1 fun e w2 => e = .returned (.int .i64 (n : Int)) ∧ Blk w2 w.heap.size #[.int .i64 0, .int .i64 0] 28 ∧ Pok w1 w2) :
    Calls Tryz.prog 105 #[ptr hp, .iface 190 (ptr g)] w fun e w' => e = .returned (.tuple #[wd (6, (n : Int)), .int .i64 0]) ∧ ∃ q w2, Pok (((w.alloc (.cells #[.int .i64 0, .int .i64 0] 28)).drewN q).setCell ⟨hp, 3, none⟩ (.int .i64 ((u : Int) + s))) w2 ∧ w' = (w2.setCell ⟨w.heap.size, 0, none⟩ (.int .i64 6)).setCell ⟨w.heap.size, 1, none⟩ (.int .i64 (n : Int)) := by
  have hb1 : Below w.heap.size w (w.alloc (.cells #[.int .i64 0, .int .i64 0] 28)) := (Below.refl _ _).alloc (Nat.le_refl _) _
  have HQ := Lib.hid (fun q => hM.quiet (Go.Proofs.YtlibdhnlmekmhaaGreatDoor.Own.below_drewN hb1 q))
  have HQR := Lib.hid (fun q => hR.quiet (Go.Proofs.YtlibdhnlmekmhaaGreatDoor.Own.below_drewN hb1 q))
  have HQS := Lib.hid (fun q => hS.quiet (Go.Proofs.YtlibdhnlmekmhaaGreatDoor.Own.below_drewN hb1 q))
  have hm := fun w => meth_code ⟨g, 0, none⟩ w
  have h01 := more h0
  have hd : (M == lim) = false := beq_eq_false_iff_ne.2 (by omega)
  have hd0 : ((M : Int) == (lim : Int)) = false := beq_eq_false_iff_ne.2 (by omega)
  have hd2 : decide (1048576 - (u : Int) < s) = false := decide_eq_false (by omega)
  have h31 := more h3
  have hf1 : ∀ o, (w.alloc o).frozen? ⟨hp, 3, none⟩ = false := fun o => (((Below.refl _ _).alloc (Nat.le_refl _) o).frozen (World.block_lt_of_cell? _ _ h3)).trans hf
  have hw : IntKind.i64.wrap ((u : Int) + (s : Int)) = (u : Int) + (s : Int) := IntWalk.i64_in _ (by omega)
  have HP := Lib.hid hP
  have hS1 := Lib.hid (fun q => hS.out ((w.alloc (.cells #[.int .i64 0, .int .i64 0] 28)).drewN q) (Go.Proofs.YtlibdhnlmekmhaaGreatDoor.Own.below_drewN hb1 q))
  have HK := Lib.hid (fun w => kind_code (ptr g) w)
  clear hM hR hS hP
  go_enter Tryz.func105, Tryz.ntmps105
  go_wp2
  go_quiet ((first | (go_at_call 25; exact HQ.out _) | (go_at_call 155; exact HQR.out _) | (go_at_call 294; exact HQS.out _)))
  go_wp2
  go_region_with ((go_at_call 294; refine (hS1.out _).mono ?_; rintro e w' ⟨rfl, qs, rfl⟩))
  all_goals
    go_wp2_with (go_at_call 156; refine (HK.out _).mono ?_; rintro e w' ⟨rfl, rfl⟩)
    refine (HP.out _ _ rfl).mono ?_
    rintro e w2 ⟨rfl, hblk, hok⟩
    obtain ⟨b0, b1, e0, e1⟩ := hblk.two
    have HOk := Lib.hid hok
    clear hok hblk
    go_wp2_with fail
    refine bodyPost_ret (v := .tuple #[wd (6, (n : Int)), .int .i64 0]) (by simp [results, Tryz.results105, go_sem, b0, b1]) rfl ⟨rfl, _, w2, HOk.out, rfl⟩
end Go.Proofs.YtlibdhnlmekmhaaGreatDoor.Add
end
