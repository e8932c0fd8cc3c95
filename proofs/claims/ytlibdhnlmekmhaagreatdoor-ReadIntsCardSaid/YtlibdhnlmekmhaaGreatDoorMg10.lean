/- The contracts of Many, Room, Limit, Live and New. | The contracts of the objects' sizes. | The contract of (*Heap).place. -/
import Derived.Laws.StructEq
import Derived.Test.YtlibdhnlmekmhaaGreatDoorMg07
import Derived.Test.YtlibdhnlmekmhaaGreatDoorMg09
/- The contracts of Many, Room, Limit, Live and New. -/
section
namespace Go.Proofs.YtlibdhnlmekmhaaGreatDoor.Quick
open Go.RowKit
open Go.Proofs.YtlibdhnlmekmhaaGreatDoor.Own Go.Proofs.YtlibdhnlmekmhaaGreatDoor.Hp Go.Proofs.YtlibdhnlmekmhaaGreatDoor.HeapOrd Go.Proofs.YtlibdhnlmekmhaaGreatDoor.Rep Go.Proofs.YtlibdhnlmekmhaaGreatDoor.Base Go.Proofs.YtlibdhnlmekmhaaGreatDoor.Find Go.Proofs.YtlibdhnlmekmhaaGreatDoor.Get

set_option maxHeartbeats 1000000 in
theorem many_core (hp m n c1 c2 : Nat) (A B : Option Addr) (w : World) (V : ∀ w', Below w.heap.size w w' → Calls Tryz.prog 69 #[ptr hp] w' fun e w'' => e = .returned (.bool true) ∧ w' = w'')
    (h1 : w.cell? ⟨hp, 1, none⟩ = some (.slice A m c1)) (h2 : w.cell? ⟨hp, 2, none⟩ = some (.slice B n c2)) (hm : m ≤ 65536) (hn : n ≤ 65536) :
    Calls Tryz.prog 25 #[ptr hp] w fun e w' => e = .returned (.int .i64 ((m : Int) - n)) ∧ ∃ q, w' = w.drewN q := by
  have HV := Lib.hid (V w (Below.refl _ _))
  clear V
  go_enter Tryz.func25, Tryz.ntmps25
  go_wp2_with (go_at_call 69; refine HV.out.mono ?_; rintro e w' ⟨rfl, rfl⟩)
  go_quiet (fail)
  go_wp2
  go_ret
  exact ⟨rfl, _, rfl⟩
theorem slice_of {w : World} {base : Nat} {e : TypeId} {size : Nat} {v : Value} {n : Nat} {xs : List Value} (h : w.ownsRow base e size v n xs) : ∃ A c, v = .slice A n c := by
  rcases h.2 with ⟨rfl, rfl⟩ | ⟨g, cap, cur, rfl, _⟩
  · exact ⟨none, 0, rfl⟩
  · exact ⟨_, _, rfl⟩
theorem nf_le {w : World} {base hp lim : Nat} {ob : Obs} {lab : Nat → Option Lab} {P : Parts} (h : HeapIs w base hp lim ob lab P) : P.nf ≤ 65536 := by
  have := h.many
  have := h.m
  have := h.lim2
  omega
theorem many_any {w : World} {base hp lim : Nat} {ob : Obs} {lab : Nat → Option Lab} {P : Parts} (h : HeapIs w base hp lim ob lab P) :
    Calls Tryz.prog 25 #[ptr hp] w fun e w' => e = .returned (.int .i64 (manyTo ob lim)) ∧ ∃ q, w' = w.drewN q := by
  obtain ⟨A, c1, h1⟩ := slice_of h.objs
  obtain ⟨B, c2, h2⟩ := slice_of h.free
  have hm := h.many
  have h3 := h.m
  have h4 := h.lim2
  rw [show (manyTo ob lim : Int) = (P.m : Int) - P.nf from by omega]
  exact many_core hp P.m P.nf c1 c2 A B w (valid_any h) (by rw [← h1]; exact h.blk.cell 1 _ rfl) (by rw [← h2]; exact h.blk.cell 2 _ rfl) (by omega) (nf_le h)
theorem many_null (w : World) : Calls Tryz.prog 25 #[.pointer none] w fun e w' => e = .returned (.int .i64 0) ∧ w = w' := by
  have HV := Lib.hid valid_nil
  go_enter Tryz.func25, Tryz.ntmps25
  go_wp2_with (go_at_call 69; refine (HV.out _).mono ?_; rintro e w' ⟨rfl, rfl⟩)
  go_ret
  exact ⟨rfl, rfl⟩

theorem room_core (hp n : Nat) (w : World) (V : ∀ w', Below w.heap.size w w' → Calls Tryz.prog 69 #[ptr hp] w' fun e w'' => e = .returned (.bool true) ∧ w' = w'')
    (h1 : w.cell? ⟨hp, 3, none⟩ = some (.int .i64 (n : Int))) (hn : n ≤ 1048576) :
    Calls Tryz.prog 155 #[ptr hp] w fun e w' => e = .returned (.int .i64 (1048576 - (n : Int))) ∧ w = w' := by
  have HV := Lib.hid (V w (Below.refl _ _))
  clear V
  go_enter Tryz.func155, Tryz.ntmps155
  go_wp2_with (go_at_call 69; refine HV.out.mono ?_; rintro e w' ⟨rfl, rfl⟩)
  go_ret
  exact ⟨rfl, rfl⟩
theorem room_any {w : World} {base hp lim : Nat} {ob : Obs} {lab : Nat → Option Lab} {P : Parts} (h : HeapIs w base hp lim ob lab P) :
    Calls Tryz.prog 155 #[ptr hp] w fun e w' => e = .returned (.int .i64 (1048576 - (usedTo ob lim : Int))) ∧ w = w' :=
  room_core hp _ w (valid_any h) (h.blk.cell 3 _ rfl) h.used
theorem room_null (w : World) : Calls Tryz.prog 155 #[.pointer none] w fun e w' => e = .returned (.int .i64 0) ∧ w = w' := by
  have HV := Lib.hid valid_nil
  go_enter Tryz.func155, Tryz.ntmps155
  go_wp2_with (go_at_call 69; refine (HV.out _).mono ?_; rintro e w' ⟨rfl, rfl⟩)
  go_ret
  exact ⟨rfl, rfl⟩
theorem limit_core (hp n : Nat) (w : World) (V : ∀ w', Below w.heap.size w w' → Calls Tryz.prog 69 #[ptr hp] w' fun e w'' => e = .returned (.bool true) ∧ w' = w'')
    (h1 : w.cell? ⟨hp, 0, none⟩ = some (.int .i64 (n : Int))) :
    Calls Tryz.prog 118 #[ptr hp] w fun e w' => e = .returned (.int .i64 (n : Int)) ∧ w = w' := by
  have HV := Lib.hid (V w (Below.refl _ _))
  clear V
  go_enter Tryz.func118, Tryz.ntmps118
  go_wp2_with (go_at_call 69; refine HV.out.mono ?_; rintro e w' ⟨rfl, rfl⟩)
  go_ret
  exact ⟨rfl, rfl⟩
theorem limit_any {w : World} {base hp lim : Nat} {ob : Obs} {lab : Nat → Option Lab} {P : Parts} (h : HeapIs w base hp lim ob lab P) :
    Calls Tryz.prog 118 #[ptr hp] w fun e w' => e = .returned (.int .i64 (lim : Int)) ∧ w = w' :=
  limit_core hp _ w (valid_any h) (h.blk.cell 0 _ rfl)

theorem new_bad (n : Int) (h : n < 1 ∨ 65536 < n) (w : World) : Calls Tryz.prog 46 #[.int .i64 n] w fun e w' => e = .returned (.tuple #[.pointer none, .int .i64 3]) ∧ w = w' := by
  rcases h with h | h
  · have hd : decide (n < 1) = true := decide_eq_true h
    go_enter Tryz.func46, Tryz.ntmps46
    go_wp2
    go_ret2
    exact ⟨rfl, rfl⟩
  · have hd : decide (n < 1) = false := decide_eq_false (by omega)
    have hd2 : decide (65536 < n) = true := decide_eq_true h
    go_enter Tryz.func46, Tryz.ntmps46
    go_wp2
    go_ret2
    exact ⟨rfl, rfl⟩
theorem new_core (n : Nat) (h1 : 1 ≤ n) (h2 : n ≤ 65536) (w : World) :
    Calls Tryz.prog 46 #[.int .i64 (n : Int)] w fun e w' => e = .returned (.tuple #[ptr w.heap.size, .int .i64 0]) ∧ w' = w.alloc (.cells #[.int .i64 (n : Int), .slice none 0 0, .slice none 0 0, .int .i64 0] 105) := by
  have hd : decide ((n : Int) < 1) = false := decide_eq_false (by omega)
  have hd2 : decide ((65536 : Int) < n) = false := decide_eq_false (by omega)
  go_enter Tryz.func46, Tryz.ntmps46
  go_wp2
  go_ret2
  exact ⟨rfl, rfl⟩
def noObs : Obs := fun _ => none
theorem usedTo_none (n : Nat) : usedTo noObs n = 0 := by
  induction n with
  | zero => rfl
  | succ n ih => simp only [usedTo, ih]; rfl
/-- A new heap is empty. -/
theorem new_any (n : Nat) (h1 : 1 ≤ n) (h2 : n ≤ 65536) (w : World) :
    Calls Tryz.prog 46 #[.int .i64 (n : Int)] w fun e w' => e = .returned (.tuple #[ptr w.heap.size, .int .i64 0]) ∧ Below w.heap.size w w' ∧ HeapIs w' w.heap.size w.heap.size n noObs (fun b => if b = w.heap.size then some .hdr else none) ⟨0, .slice none 0 0, .slice none 0 0, [], 0, fun _ => 0⟩ := by
  refine (new_core n h1 h2 w).mono ?_
  rintro e w' ⟨rfl, rfl⟩
  refine ⟨rfl, (Below.refl _ _).alloc (Nat.le_refl _) _, ?_⟩
  exact {
    lim1 := h1
    lim2 := h2
    inb := fun b l hb => by
      split at hb
      · rename_i e; subst e; simp
      · cases hb
    hdr := by simp
    blk := by rw [usedTo_none]; exact Blk.new _ _ _
    m := by simp
    out := fun _ _ => rfl
    used := by rw [usedTo_none]; omega
    objs := ⟨by simp, .inl ⟨rfl, rfl⟩⟩
    olab := fun k hk => by cases hk
    each := fun i hi => by simp at hi
    small := fun _ => trivial
    free := ⟨by simp [fcells], .inl ⟨rfl, rfl⟩⟩
    flab := fun k hk => by cases hk
    ord := fun k _ hk => by simp at hk
    inj := fun a b ha => by simp at ha
    holes := fun x => by simp }
end Go.Proofs.YtlibdhnlmekmhaaGreatDoor.Quick
end

/- The contracts of the objects' sizes. -/
section
namespace Go.Proofs.YtlibdhnlmekmhaaGreatDoor.Size
open Go.RowKit
open Go.Proofs.YtlibdhnlmekmhaaGreatDoor.Own Go.Proofs.YtlibdhnlmekmhaaGreatDoor.Hp Go.Proofs.YtlibdhnlmekmhaaGreatDoor.HeapOrd Go.Proofs.YtlibdhnlmekmhaaGreatDoor.Rep Go.Proofs.YtlibdhnlmekmhaaGreatDoor.Base Go.Proofs.YtlibdhnlmekmhaaGreatDoor.Get Go.Proofs.YtlibdhnlmekmhaaGreatDoor.Meth Go.Proofs.YtlibdhnlmekmhaaGreatDoor.Quick

theorem size_cons (p : Value) (w : World) : Calls Tryz.prog 286 #[p] w fun e w' => e = .returned (.int .i64 0) ∧ w = w' := by
  go_enter Tryz.func286, Tryz.ntmps286
  go_wp2
  go_ret
  exact ⟨rfl, rfl⟩
theorem size_text (g : Nat) (x : Int) (w : World) (h : w.cell? ⟨g, 1, none⟩ = some (.int .i64 x)) : Calls Tryz.prog 290 #[ptr g] w fun e w' => e = .returned (.int .i64 x) ∧ w = w' := by
  go_enter Tryz.func290, Tryz.ntmps290
  go_wp2
  go_ret
  exact ⟨rfl, rfl⟩
theorem size_vector (g n c : Nat) (A : Option Addr) (w : World) (h : w.cell? ⟨g, 0, none⟩ = some (.slice A n c)) : Calls Tryz.prog 293 #[ptr g] w fun e w' => e = .returned (.int .i64 (n : Int)) ∧ w = w' := by
  go_enter Tryz.func293, Tryz.ntmps293
  go_wp2
  go_ret
  exact ⟨rfl, rfl⟩
theorem size_code (g n c n2 c2 : Nat) (A A2 : Option Addr) (w : World) (h : w.cell? ⟨g, 3, none⟩ = some (.slice A n c)) (h2 : w.cell? ⟨g, 4, none⟩ = some (.slice A2 n2 c2)) (b1 : n ≤ 65536) (b2 : n2 ≤ 65536) :
    Calls Tryz.prog 294 #[ptr g] w fun e w' => e = .returned (.int .i64 ((n : Int) + n2)) ∧ ∃ q, w' = w.drewN q := by
  go_enter Tryz.func294, Tryz.ntmps294
  go_wp2
  go_quiet (fail)
  go_wp2
  go_ret
  exact ⟨rfl, _, rfl⟩

/-- A quiet call in a region that draws its order. -/
theorem quietQ {P : Program} {f : FuncId} {args : Array Value} {w : World} {n : Nat} {v : Value}
    (h : Calls P f args (w.drewN n) fun e w' => e = .returned v ∧ ∃ q, w' = (w.drewN n).drewN q) : Calls P f args (w.drewN n) fun e w'' => e = .returned v ∧ ∃ m, w'' = w.drewN m :=
  h.mono fun _ _ ⟨he, q, hq⟩ => ⟨he, n + q, by rw [hq, World.drewN_drewN]⟩
theorem quietQ2 {P : Program} {f : FuncId} {args : Array Value} {w : World} {a n : Nat} {v : Value}
    (h : Calls P f args (w.drewN (a + n)) fun e w' => e = .returned v ∧ ∃ q, w' = (w.drewN (a + n)).drewN q) : Calls P f args (w.drewN (a + n)) fun e w'' => e = .returned v ∧ ∃ m, w'' = w.drewN (a + m) :=
  h.mono fun _ _ ⟨he, q, hq⟩ => ⟨he, n + q, by rw [hq, World.drewN_drewN, Nat.add_assoc]⟩
/-- A call that only draws, in every world that has only grown. -/
def Draws (W : World) (f : FuncId) (a : Array Value) (v : Value) : Prop := ∀ w, Below W.heap.size W w → Calls Tryz.prog f a w fun e w' => e = .returned v ∧ ∃ q, w' = w.drewN q
theorem Draws.out {W : World} {f : FuncId} {a : Array Value} {v : Value} (h : Draws W f a v) (w : World) (hb : Below W.heap.size W w) : Calls Tryz.prog f a w fun e w' => e = .returned v ∧ ∃ q, w' = w.drewN q := h w hb
theorem draws_same {W : World} {f : FuncId} {a : Array Value} {v : Value} (h : ∀ w, Below W.heap.size W w → Calls Tryz.prog f a w fun e w' => e = .returned v ∧ w = w') : Draws W f a v :=
  fun w hb => (h w hb).mono fun _ _ ⟨he, hw⟩ => ⟨he, 0, hw.symm⟩
theorem draws_many {w : World} {base hp lim : Nat} {ob : Obs} {lab : Nat → Option Lab} {P : Parts} (h : HeapIs w base hp lim ob lab P) : Draws w 25 #[ptr hp] (.int .i64 (manyTo ob lim)) := fun _ hb => many_any (h.below hb)
theorem draws_room {w : World} {base hp lim : Nat} {ob : Obs} {lab : Nat → Option Lab} {P : Parts} (h : HeapIs w base hp lim ob lab P) : Draws w 155 #[ptr hp] (.int .i64 (1048576 - (usedTo ob lim : Int))) := draws_same fun _ hb => room_any (h.below hb)
theorem Draws.quiet {W : World} {f : FuncId} {a : Array Value} {v : Value} (h : Draws W f a v) {w : World} {n : Nat} (hb : Below W.heap.size W (w.drewN n)) : Calls Tryz.prog f a (w.drewN n) fun e w'' => e = .returned v ∧ ∃ m, w'' = w.drewN m := quietQ (h _ hb)
theorem Draws.quiet2 {W : World} {f : FuncId} {a : Array Value} {v : Value} (h : Draws W f a v) {w : World} {c n : Nat} (hb : Below W.heap.size W (w.drewN (c + n))) : Calls Tryz.prog f a (w.drewN (c + n)) fun e w'' => e = .returned v ∧ ∃ m, w'' = w.drewN (c + m) := quietQ2 (h _ hb)
end Go.Proofs.YtlibdhnlmekmhaaGreatDoor.Size
end

/- The contract of (*Heap).place. -/
section
namespace Go.Proofs.YtlibdhnlmekmhaaGreatDoor.Place
set_option maxRecDepth 100000
open Go.RowKit
open Go.Proofs.YtlibdhnlmekmhaaGreatDoor.Own Go.Proofs.YtlibdhnlmekmhaaGreatDoor.Hp Go.Proofs.YtlibdhnlmekmhaaGreatDoor.HeapOrd Go.Proofs.YtlibdhnlmekmhaaGreatDoor.Rep Go.Proofs.YtlibdhnlmekmhaaGreatDoor.Base Go.Proofs.YtlibdhnlmekmhaaGreatDoor.Get Go.Proofs.YtlibdhnlmekmhaaGreatDoor.Meth Go.Proofs.YtlibdhnlmekmhaaGreatDoor.Quick Go.Proofs.YtlibdhnlmekmhaaGreatDoor.Size Go.Proofs.YtlibdhnlmekmhaaGreatDoor.Nums

theorem object_info : (Tryz.prog.info? 148).map (fun i => (i.zero, i.size, i.bytes)) = some (some .nilIface, 1, 16) := by kernel_rfl

theorem one_cell (w : World) (v : Value) (t : TypeId) : ∀ j u, [v][j]? = some u → (w.alloc (.cells #[v] t)).cell? ((⟨w.heap.size, 0, none⟩ : Addr).add j) = some u := by
  intro j x hj
  cases j with
  | zero =>
    simp at hj
    subst hj
    exact (Blk.new w #[v] t).cell 0 _ rfl
  | succ j => simp at hj
theorem one_one {v : Value} (h : v.oneCell' = true) : ∀ u ∈ [v], u.oneCell' = true := by
  intro x hx
  simp at hx
  subst hx
  exact h

/-- What place leaves where no number is free. -/
structure PlacedEnd (w w' : World) (base hp m : Nat) (l fv u ov ov' : Value) (vals : List Value) (v : Value) : Prop where
  blk : Blk w' hp #[l, ov', fv, u] 105
  row : w'.ownsRow base 148 1 ov' (m + 1) (vals ++ [v])
  keeps : Keeps (fun b => b = hp ∨ ov.ownBlock = some b) w w'
  place : ∀ b, ov'.ownBlock = some b → ov.ownBlock = some b ∨ w.heap.size ≤ b

set_option maxHeartbeats 4000000 in
theorem place_end (base hp m c : Nat) (A : Option Addr) (ti : TypeId) (l u ov pv : Value) (vals : List Value) (w : World) (hm : m ≤ 65536) (hB : Blk w hp #[l, ov, .slice A 0 c, u] 105) (hown : w.ownsRow base 148 1 ov m vals)
    (hb : base ≤ w.heap.size) (hne : ov.ownBlock ≠ some hp) :
    Calls Tryz.prog 157 #[ptr hp, .iface ti pv] w fun e w' => e = .returned (.int .i64 (m : Int)) ∧ ∃ ov', PlacedEnd w w' base hp m l (.slice A 0 c) u ov ov' vals (.iface ti pv) := by
  obtain ⟨i0, hi, hz0, hz1, hz2⟩ := info_parts object_info
  have HI := Lib.hid hi
  have HZ0 := Lib.hid hz0
  have HZ1 := Lib.hid hz1
  have HZ2 := Lib.hid hz2
  obtain ⟨c0, c1, c2, c3⟩ := hB.four
  have c11 := more c1
  have HOw := Lib.hid hown
  have HNe := Lib.hid hne
  have HB := Lib.hid hB
  clear hi hz0 hz1 hz2 hown hne hB
  go_enter Tryz.func157, Tryz.ntmps157
  go_wp2_with (at_builtin; refine wpList_append_place rfl (.tmp 16) (.tmp 18) 102 rfl base 148 i0 .nilIface 1 16 Tryz.underlying102 HI.out HZ0.out HZ1.out HZ2.out rfl (by decide) ov m vals rfl (HOw.out.alloc _) ⟨w.heap.size, 0, none⟩ 1 1 [.iface ti pv] rfl rfl (one_cell w _ _) (one_one rfl) (by as_aux_lemma => (unfold maxLen; omega)) (by as_aux_lemma => omega) (by as_aux_lemma => (simp; omega)) ?_)
  intro A' c' w1 hap
  have hk : Keeps (fun b => ov.ownBlock = some b) w w1 := keeps_push (w := w) (o := .cells #[.iface ti pv] 148) hap.grown rfl rfl rfl rfl
  have hpl : ∀ b, (Value.slice A' (m + 1) c').ownBlock = some b → ov.ownBlock = some b ∨ w.heap.size ≤ b := fun b hb => by
    rcases hap.place b hb with h | h
    · exact .inl h
    · exact .inr (by subst h; exact alloc_le _ _)
  have hB1 := HB.out.keeps hk HNe.out
  have hne2 : (Value.slice A' (m + 1) c').ownBlock ≠ some hp := fun e => by
    rcases hpl hp e with h | h
    · exact HNe.out h
    · have := HB.out.lt; omega
  have hfin : PlacedEnd w (w1.setCell ⟨hp, 1, none⟩ (.slice A' (m + 1) c')) base hp m l (.slice A 0 c) u ov (.slice A' (m + 1) c') vals (.iface ti pv) :=
    ⟨hB1.set 1 _, owns_keeps hap.row ((Keeps.refl (fun b => b = hp) w1).setCell ⟨hp, 1, none⟩ _ fun _ => rfl) fun b hb e => hne2 (e ▸ hb), (hk.mono fun b _ e => .inr e).setCell ⟨hp, 1, none⟩ _ fun _ => .inl rfl, hpl⟩
  have HF := Lib.hid hfin
  obtain ⟨d0, d1, d2, d3⟩ := hB1.four
  have f1 := hB1.free
  clear hfin hap hk hpl hne2 hB1 c0 c1 c2 c3 c11
  go_wp2_with fail
  go_ret
  exact ⟨by simp, _, HF.out⟩

/-- What place leaves where a number was free. -/
structure PlacedHole (w w' : World) (base hp m n g c go co k : Nat) (l u : Value) (vals : List Value) (v : Value) (f f' : Nat → Nat) : Prop where
  blk : Blk w' hp #[l, .slice (some ⟨go, 0, none⟩) m co, .slice (some ⟨g, 0, none⟩) n c, u] 105
  row : w'.ownsRow base 148 1 (.slice (some ⟨go, 0, none⟩) m co) m (vals.set k v)
  free : w'.ownsRow base 3 1 (.slice (some ⟨g, 0, none⟩) n c) n (fcells n f')
  keeps : Keeps (fun b => b = hp ∨ b = g ∨ b = go) w w'
  sames : Sames (n + 1) f f'
  last : f' n = k
  ord : Ord f' n

set_option maxHeartbeats 4000000 in
theorem place_hole (base hp m n g c go co : Nat) (ti : TypeId) (l u pv : Value) (vals : List Value) (f : Nat → Nat) (w : World) (_hm : m ≤ 65536) (hn : n ≤ 65536) (hB : Blk w hp #[l, .slice (some ⟨go, 0, none⟩) m co, .slice (some ⟨g, 0, none⟩) (n + 1) c, u] 105)
    (hown : w.ownsRow base 148 1 (.slice (some ⟨go, 0, none⟩) m co) m vals) (hfree : w.ownsRow base 3 1 (.slice (some ⟨g, 0, none⟩) (n + 1) c) (n + 1) (fcells (n + 1) f))
    (hne : hp ≠ g) (hne2 : hp ≠ go) (hne3 : g ≠ go) (ho : Ord f (n + 1)) (hk : f 0 < m) :
    Calls Tryz.prog 157 #[ptr hp, .iface ti pv] w fun e w' => e = .returned (.int .i64 (f 0 : Int)) ∧ ∃ f', PlacedHole w w' base hp m n g c go co (f 0) l u vals (.iface ti pv) f f' := by
  obtain ⟨c0, c1, c2, c3⟩ := hB.four
  have hL := least_any base hp 2 n g c f _ _ w hn hB rfl hfree hne ho
  obtain ⟨k, hk0⟩ : ∃ k, f 0 = k := ⟨_, rfl⟩
  rw [hk0] at hL hk ⊢
  have HK := Lib.hid hk0
  have HL := Lib.hid hL
  have HOw := Lib.hid hown
  have HN := Lib.hid (And.intro hne2 hne3)
  have hz : ((n : Int) + 1 == 0) = false := beq_eq_false_iff_ne.2 (by omega)
  clear hL hown hne hne2 hne3 ho hfree hB hk0
  go_enter Tryz.func157, Tryz.ntmps157
  go_wp2_with fail
  refine HL.out.mono ?_
  rintro e w1 ⟨rfl, f', hT⟩
  obtain ⟨d0, d1, d2, d3⟩ := hT.blk.four
  have hO1 := owns_keeps HOw.out hT.keeps (fun b hb e => by
    simp only [Value.ownBlock, Option.some.injEq] at hb
    rcases e with e | e
    · exact HN.out.1 (by rw [hb]; exact e.symm)
    · exact HN.out.2 (by rw [hb]; exact e.symm))
  have hr := Row.of_owns hO1
  have hlen : vals.length = m := by have := hO1.1; omega
  have hcv : w1.cell? ⟨go, k, none⟩ = some (vals[k]'(by omega)) := hr.cell k _ (List.getElem?_eq_getElem (by omega))
  have hfr := hr.free k
  have hfin : PlacedHole w (w1.setCell ⟨go, k, none⟩ (.iface ti pv)) base hp m n g c go co k l u vals (.iface ti pv) f f' :=
    ⟨hT.blk.setOther _ _ (fun e => HN.out.1 e.symm), owns_set hO1 k _, owns_keeps hT.row ((Keeps.refl (fun b => b = go) w1).setCell ⟨go, k, none⟩ _ fun _ => rfl) (fun b hb e => by
      simp only [Value.ownBlock, Option.some.injEq] at hb
      exact HN.out.2 (by rw [hb]; exact e)), (hT.keeps.mono fun b _ e => by rcases e with e | e; exact .inl e; exact .inr (.inl e)).setCell ⟨go, k, none⟩ _ fun _ => .inr (.inr rfl), hT.sames, by rw [hT.last, HK.out], hT.ord⟩
  have HF := Lib.hid hfin
  obtain ⟨x, hx⟩ : ∃ x, vals[k]'(by omega) = x := ⟨_, rfl⟩
  rw [hx] at hcv
  clear hfin hT hO1 hr hx c0 c1 c2 c3
  go_wp2_with fail
  go_ret
  exact ⟨rfl, f', HF.out⟩
end Go.Proofs.YtlibdhnlmekmhaaGreatDoor.Place
end
