/- The contracts of VecOf, TextOf, CodeOf and Live. -/
import Derived.Test.YtcdlfgggmigcnaaDoorElem
namespace Go.Proofs.YtcdlfgggmigcnaaDoor.Elem
set_option maxRecDepth 100000
open Go.RowKit
open Go.Proofs.YtcdlfgggmigcnaaDoor.Own Go.Proofs.YtcdlfgggmigcnaaDoor.Hp Go.Proofs.YtcdlfgggmigcnaaDoor.Rep Go.Proofs.YtcdlfgggmigcnaaDoor.Base Go.Proofs.YtcdlfgggmigcnaaDoor.Get Go.Proofs.YtcdlfgggmigcnaaDoor.Clone Go.Proofs.YtcdlfgggmigcnaaDoor.Visit Go.Proofs.YtcdlfgggmigcnaaDoor.CloneC

/-- What TextOf returns. -/
def textOfO (ob : Obs) (x : Wd) : ByteArray × Int := match findO ob x with | some (.text s _) => (s, 0) | _ => (⟨#[]⟩, 6)
set_option maxHeartbeats 1000000 in
theorem textOf_no (hp : Nat) (x : Wd) (w : World) (G : Reads w 79 #[ptr hp, wd x] (.tuple #[.pointer none, .int .i64 6])) :
    Calls Tryd.prog 35 #[ptr hp, wd x] w fun e w' => e = .returned (.tuple #[.string ⟨#[]⟩, .int .i64 6]) ∧ Below w.heap.size w w' := by
  have hb := box_below w x
  have HG := Lib.hid (G.out _ hb)
  clear G
  go_enter Tryd.func35, Tryd.ntmps35
  go_wp2_with fail
  refine HG.out.mono ?_
  rintro e w1 ⟨rfl, hb1⟩
  have HB := Lib.hid (hb.trans (hb1.mono hb.size))
  clear hb1 hb
  go_wp2_with fail
  go_ret2
  exact ⟨rfl, HB.out⟩
set_option maxHeartbeats 1000000 in
theorem textOf_yes (hp g : Nat) (s : ByteArray) (k : Int) (x : Wd) (w : World) (G : Reads w 79 #[ptr hp, wd x] (.tuple #[ptr g, .int .i64 0])) (hB : Blk w g #[.string s, .int .i64 k] 114) :
    Calls Tryd.prog 35 #[ptr hp, wd x] w fun e w' => e = .returned (.tuple #[.string s, .int .i64 0]) ∧ Below w.heap.size w w' := by
  have hb := box_below w x
  have HG := Lib.hid (G.out _ hb)
  have HBl := Lib.hid hB
  clear G hB
  go_enter Tryd.func35, Tryd.ntmps35
  go_wp2_with fail
  refine HG.out.mono ?_
  rintro e w1 ⟨rfl, hb1⟩
  have HB := Lib.hid (hb.trans (hb1.mono hb.size))
  have c0 := (HBl.out.below HB.out).cell 0 _ rfl
  clear hb1 hb
  go_wp2_with fail
  go_ret2
  exact ⟨rfl, HB.out⟩
theorem textOf_any {w : World} {base hp lim : Nat} {ob : Obs} {lab : Nat → Option Lab} {P : Parts} (h : HeapIs w base hp lim ob lab P) (x : Wd) :
    Reads w 35 #[ptr hp, wd x] (.tuple #[.string (textOfO ob x).1, .int .i64 (textOfO ob x).2]) := by
  intro w' hb
  have h' := h.below hb
  unfold textOfO
  rcases get_text_any h' x with ⟨⟨g, ho, _, hr⟩, hk⟩ | ⟨hr, hk⟩
  · match hf : findO ob x with
    | some (.text s k) =>
      rw [hf] at ho
      obtain ⟨g', hv, _, hB⟩ := ho
      simp at hv
      subst hv
      exact textOf_yes hp g s k x w' hr hB
    | none => rw [hf] at hk; simp at hk
    | some (.cons ..) => rw [hf] at hk; simp [Ob.kind] at hk
    | some (.vec ..) => rw [hf] at hk; simp [Ob.kind] at hk
    | some (.code ..) => rw [hf] at hk; simp [Ob.kind] at hk
  · match hf : findO ob x with
    | some (.text s k) => rw [hf] at hk; simp [Ob.kind] at hk
    | none => exact textOf_no hp x w' hr
    | some (.cons ..) => exact textOf_no hp x w' hr
    | some (.vec ..) => exact textOf_no hp x w' hr
    | some (.code ..) => exact textOf_no hp x w' hr

/-- What VecOf returns. -/
def vecOfO (ob : Obs) (x : Wd) : List Wd × Int := match findO ob x with | some (.vec l) => (l, 0) | _ => ([], 6)
set_option maxHeartbeats 1000000 in
theorem vecOf_no (hp : Nat) (x : Wd) (w : World) (G : Reads w 78 #[ptr hp, wd x] (.tuple #[.pointer none, .int .i64 6])) :
    Calls Tryd.prog 33 #[ptr hp, wd x] w fun e w' => e = .returned (.tuple #[.slice none 0 0, .int .i64 6]) ∧ Below w.heap.size w w' := by
  have hb := box_below w x
  have HG := Lib.hid (G.out _ hb)
  clear G
  go_enter Tryd.func33, Tryd.ntmps33
  go_wp2_with fail
  refine HG.out.mono ?_
  rintro e w1 ⟨rfl, hb1⟩
  have HB := Lib.hid (hb.trans (hb1.mono hb.size))
  clear hb1 hb
  go_wp2_with fail
  go_ret2
  exact ⟨rfl, HB.out⟩
set_option maxHeartbeats 1000000 in
theorem vecOf_yes (hp g : Nat) (r : Value) (l : List Wd) (x : Wd) (w : World) (G : Reads w 78 #[ptr hp, wd x] (.tuple #[ptr g, .int .i64 0])) (hB : Blk w g #[r] 121) (hr : SlR w r l.length (wcells l)) (hl : l.length ≤ 65536) :
    Calls Tryd.prog 33 #[ptr hp, wd x] w fun e w' => (∃ v, e = .returned (.tuple #[v, .int .i64 0]) ∧ w'.ownsRow w.heap.size 28 2 v l.length (wcells l)) ∧ Below w.heap.size w w' := by
  have hb := box_below w x
  have HG := Lib.hid (G.out _ hb)
  have HBl := Lib.hid hB
  have HC := Lib.hid (fun w1 (hb1 : Below w.heap.size w w1) => cloneW_any r _ _ w1 (hr.below hb1) (wcells_length l) (wcells_one l) (by omega))
  clear G hB hr
  go_enter Tryd.func33, Tryd.ntmps33
  go_wp2_with fail
  refine HG.out.mono ?_
  rintro e w1 ⟨rfl, hb1⟩
  have HB := Lib.hid (hb.trans (hb1.mono hb.size))
  have c0 := (HBl.out.below HB.out).cell 0 _ rfl
  clear hb1 hb
  go_wp2_with fail
  refine (HC.out _ HB.out).mono ?_
  rintro e w2 ⟨⟨v, rfl, ho⟩, hb2⟩
  have HO := Lib.hid (Make.owns_base' ho HB.out.size)
  have HB2 := Lib.hid (HB.out.trans (hb2.mono HB.out.size))
  clear ho hb2
  go_wp2_with fail
  go_ret2
  exact ⟨⟨v, rfl, HO.out⟩, HB2.out⟩
theorem vecOf_any {w : World} {base hp lim : Nat} {ob : Obs} {lab : Nat → Option Lab} {P : Parts} (h : HeapIs w base hp lim ob lab P) (x : Wd) :
    Calls Tryd.prog 33 #[ptr hp, wd x] w fun e w' => (∃ v, e = .returned (.tuple #[v, .int .i64 (vecOfO ob x).2]) ∧ w'.ownsRow w.heap.size 28 2 v (vecOfO ob x).1.length (wcells (vecOfO ob x).1)) ∧ Below w.heap.size w w' := by
  have no : (∀ l, findO ob x ≠ some (.vec l)) → Reads w 78 #[ptr hp, wd x] (.tuple #[.pointer none, .int .i64 6]) → _ := fun hn hr => (vecOf_no hp x w hr).mono (fun e w' (hh : _ ∧ _) => (⟨⟨_, hh.1, ⟨by simp [wcells], .inl ⟨rfl, rfl⟩⟩⟩, hh.2⟩ : (∃ v, e = .returned (.tuple #[v, .int .i64 6]) ∧ w'.ownsRow w.heap.size 28 2 v ([] : List Wd).length (wcells [])) ∧ Below w.heap.size w w'))
  unfold vecOfO
  rcases get_vector_any h x with ⟨⟨g, ho, _, hr⟩, hk⟩ | ⟨hr, hk⟩
  · match hf : findO ob x with
    | some (.vec l) =>
      rw [hf] at ho
      obtain ⟨g', r, hv, _, hB, hrow⟩ := ho
      simp at hv
      subst hv
      have hsm : l.length ≤ 65536 := by
        obtain ⟨_, h1, _⟩ := findO_some hf
        have := h.small x.2.toNat
        rw [h1] at this
        exact this
      exact vecOf_yes hp g r l x w hr hB (Go.Proofs.YtcdlfgggmigcnaaDoor.Clone.SlAt.reads hrow) hsm
    | none => rw [hf] at hk; simp at hk
    | some (.cons ..) => rw [hf] at hk; simp [Ob.kind] at hk
    | some (.text ..) => rw [hf] at hk; simp [Ob.kind] at hk
    | some (.code ..) => rw [hf] at hk; simp [Ob.kind] at hk
  · match hf : findO ob x with
    | some (.vec l) => rw [hf] at hk; simp [Ob.kind] at hk
    | none => exact no (by rw [hf]; simp) hr
    | some (.cons ..) => exact no (by rw [hf]; simp) hr
    | some (.text ..) => exact no (by rw [hf]; simp) hr
    | some (.code ..) => exact no (by rw [hf]; simp) hr

/-- What CodeOf returns. -/
def codeOfO (ob : Obs) (x : Wd) : (Int × Int × Int × List Int × List Wd) × Int := match findO ob x with | some (.code p q z b l) => ((p, q, z, b, l), 0) | _ => ((0, 0, 0, [], []), 6)
abbrev cbox (p q z : Int) (rb rl : Value) : Obj := .cells #[.int .i64 p, .int .i64 q, .int .i64 z, rb, rl] 52
set_option maxHeartbeats 2000000 in
theorem codeOf_no (hp : Nat) (x : Wd) (w : World) (G : Reads w 82 #[ptr hp, wd x] (.tuple #[.pointer none, .int .i64 6])) :
    Calls Tryd.prog 39 #[ptr hp, wd x] w fun e w' => e = .returned (.tuple #[.agg #[.int .i64 0, .int .i64 0, .int .i64 0, .slice none 0 0, .slice none 0 0], .int .i64 6]) ∧ Below w.heap.size w w' := by
  have hb := (box_below w x).alloc (by simp) (cbox 0 0 0 (.slice none 0 0) (.slice none 0 0))
  have HG := Lib.hid (G.out _ hb)
  clear G
  go_enter Tryd.func39, Tryd.ntmps39
  go_wp2_with fail
  refine HG.out.mono ?_
  rintro e w1 ⟨rfl, hb1⟩
  obtain ⟨n1, n2⟩ := two_new hb1
  obtain ⟨⟨c0, c1, c2, c3, c4⟩, ⟨d0, d1, d2, d3, d4⟩⟩ := Blk.five n2
  have HB := Lib.hid (hb.trans (hb1.mono hb.size))
  clear n1 n2 hb1 hb
  go_wp2_with fail
  refine bodyPost_ret (v := .tuple #[.agg #[.int .i64 0, .int .i64 0, .int .i64 0, .slice none 0 0, .slice none 0 0], .int .i64 6]) (by simp [results, Tryd.results39, go_sem, c0, c1, c2, c3, c4]) rfl ⟨rfl, ?_⟩
  exact ((((HB.out.setCell (by simp) _).setCell (by simp) _).setCell (by simp) _).setCell (by simp) _).setCell (by simp) _
set_option maxHeartbeats 4000000 in
theorem codeOf_yes (hp g : Nat) (p q z : Int) (rb rl : Value) (b : List Int) (l : List Wd) (x : Wd) (w : World) (G : Reads w 82 #[ptr hp, wd x] (.tuple #[ptr g, .int .i64 0])) (hB : Blk w g #[.int .i64 p, .int .i64 q, .int .i64 z, rb, rl] 135)
    (hrb : SlR w rb b.length (bcells b)) (hrl : SlR w rl l.length (wcells l)) (hl : l.length ≤ 65536) (hbl : b.length ≤ 65536) :
    Calls Tryd.prog 39 #[ptr hp, wd x] w fun e w' => (∃ vb vl, e = .returned (.tuple #[.agg #[.int .i64 p, .int .i64 q, .int .i64 z, vb, vl], .int .i64 0]) ∧ w'.ownsRow w.heap.size 5 1 vb b.length (bcells b) ∧ w'.ownsRow w.heap.size 28 2 vl l.length (wcells l) ∧ (∀ k, vb.ownBlock = some k → vl.ownBlock ≠ some k)) ∧ Below w.heap.size w w' := by
  have hb := (box_below w x).alloc (by simp) (cbox 0 0 0 (.slice none 0 0) (.slice none 0 0))
  have HG := Lib.hid (G.out _ hb)
  have HBl := Lib.hid hB
  have HC := Lib.hid (fun w1 (hb1 : Below w.heap.size w w1) => clone_core p q z rb rl _ _ _ _ w1 (hrb.below hb1) (hrl.below hb1) (by simp [bcells]) (wcells_length l) (bcells_one b) (wcells_one l) hbl hl)
  clear G hB hrb hrl
  go_enter Tryd.func39, Tryd.ntmps39
  go_wp2_with fail
  refine HG.out.mono ?_
  rintro e w1 ⟨rfl, hb1⟩
  obtain ⟨n1, n2⟩ := two_new hb1
  have HB := Lib.hid (hb.trans (hb1.mono hb.size))
  obtain ⟨⟨q0, q1, q2, q3, q4⟩, -⟩ := Blk.five (HBl.out.below HB.out)
  have HN2 := Lib.hid n2
  clear n1 n2 hb1 hb
  go_wp2_with fail
  refine (HC.out _ HB.out).mono ?_
  rintro e w2 ⟨⟨vb, vl, rfl, hob, hol, hdis⟩, hb2⟩
  have hn3 := HN2.out.below hb2
  obtain ⟨⟨c0, c1, c2, c3, c4⟩, ⟨d0, d1, d2, d3, d4⟩⟩ := Blk.five hn3
  obtain ⟨A1, e1, rfl⟩ := slice_of' hob
  obtain ⟨A2, e2, rfl⟩ := slice_of' hol
  have hgt := HN2.out.lt
  have nb0 : ∀ k, (Value.slice A1 b.length e1).ownBlock = some k → w.heap.size + 1 < k := fun k hk => by have := (hob.lt k hk).1; omega
  have nl0 : ∀ k, (Value.slice A2 l.length e2).ownBlock = some k → w.heap.size + 1 < k := fun k hk => by have := (hol.lt k hk).1; omega
  have HX := Lib.hid (And.intro (Make.owns_base' hob HB.out.size) (And.intro (Make.owns_base' hol HB.out.size) (And.intro nb0 (And.intro nl0 hdis))))
  have HB2 := Lib.hid (HB.out.trans (hb2.mono HB.out.size))
  clear hob hol nb0 nl0 hdis hb2 hn3 q0 q1 q2 q3 q4
  go_wp2_with fail
  refine bodyPost_ret (v := .tuple #[.agg #[.int .i64 p, .int .i64 q, .int .i64 z, .slice A1 b.length e1, .slice A2 l.length e2], .int .i64 0]) (by simp [results, Tryd.results39, go_sem, c0, c1, c2, c3, c4]) rfl ?_
  have hk2 := (((((Keeps.refl (fun b => b = w.heap.size + 1) w2).setCell ⟨w.heap.size + 1, 0, none⟩ (.int .i64 p) fun _ => rfl).setCell ⟨w.heap.size + 1, 1, none⟩ (.int .i64 q) fun _ => rfl).setCell ⟨w.heap.size + 1, 2, none⟩ (.int .i64 z) fun _ => rfl).setCell ⟨w.heap.size + 1, 3, none⟩ (.slice A1 b.length e1) fun _ => rfl).setCell ⟨w.heap.size + 1, 4, none⟩ (.slice A2 l.length e2) fun _ => rfl
  exact ⟨⟨_, _, rfl, owns_keeps HX.out.1 hk2 (fun k hk e => by have := HX.out.2.2.1 k hk; omega), owns_keeps HX.out.2.1 hk2 (fun k hk e => by have := HX.out.2.2.2.1 k hk; omega), HX.out.2.2.2.2⟩, HB2.out.trans ((hk2.mono (G := fun b => w.heap.size ≤ b) (fun b _ e => by omega)).below HB2.out.size (fun b hb => hb))⟩

/-- Whether a kind's words are always live. -/
def always (k : Int) : Bool := k == 0 || k == 1 || k == 5 || k == 7 || k == 8 || k == 9 || k == 10
def liveO (ob : Obs) (x : Wd) : Bool := always x.1 || (findO ob x).isSome
set_option maxHeartbeats 2000000 in
theorem live_findNone (hp : Nat) (k n : Int) (w : World) (V : ∀ w', Below w.heap.size w w' → Calls Tryd.prog 66 #[ptr hp] w' fun e w'' => e = .returned (.bool true) ∧ w' = w'') (Fi : Reads w 81 #[ptr hp, wd (k, n)] .nilIface)
    (h : always k = false) :
    Calls Tryd.prog 38 #[ptr hp, wd (k, n)] w fun e w' => e = .returned (.bool false) ∧ Below w.heap.size w w' := by
  have hv := neq_nil
  have hb := box_below w (k, n)
  have HV := Lib.hid (V _ hb)
  have HF := Lib.hid (Fi.out _ hb)
  simp only [always, Bool.or_eq_false_iff] at h
  obtain ⟨⟨⟨⟨⟨⟨h0, h1⟩, h2⟩, h3⟩, h4⟩, h5⟩, h6⟩ := h
  clear V Fi
  go_enter Tryd.func38, Tryd.ntmps38
  go_wp2_with fail
  refine HV.out.mono ?_
  rintro e w1 ⟨rfl, rfl⟩
  go_wp2_with fail
  refine HF.out.mono ?_
  rintro e w2 ⟨rfl, hb2⟩
  have HB := Lib.hid (hb.trans (hb2.mono hb.size))
  clear hb hb2
  go_wp2_with fail
  go_ret
  exact ⟨rfl, HB.out⟩
set_option maxHeartbeats 2000000 in
theorem live_findSome (hp : Nat) (k n : Int) (w : World) (t : TypeId) (p : Value) (V : ∀ w', Below w.heap.size w w' → Calls Tryd.prog 66 #[ptr hp] w' fun e w'' => e = .returned (.bool true) ∧ w' = w'') (Fi : Reads w 81 #[ptr hp, wd (k, n)] (.iface t p))
    (h : always k = false) :
    Calls Tryd.prog 38 #[ptr hp, wd (k, n)] w fun e w' => e = .returned (.bool true) ∧ Below w.heap.size w w' := by
  have hv := neq_some t p
  have hb := box_below w (k, n)
  have HV := Lib.hid (V _ hb)
  have HF := Lib.hid (Fi.out _ hb)
  simp only [always, Bool.or_eq_false_iff] at h
  obtain ⟨⟨⟨⟨⟨⟨h0, h1⟩, h2⟩, h3⟩, h4⟩, h5⟩, h6⟩ := h
  clear V Fi
  go_enter Tryd.func38, Tryd.ntmps38
  go_wp2_with fail
  refine HV.out.mono ?_
  rintro e w1 ⟨rfl, rfl⟩
  go_wp2_with fail
  refine HF.out.mono ?_
  rintro e w2 ⟨rfl, hb2⟩
  have HB := Lib.hid (hb.trans (hb2.mono hb.size))
  clear hb hb2
  go_wp2_with fail
  go_ret
  exact ⟨rfl, HB.out⟩
set_option maxHeartbeats 2000000 in
theorem live_0 (hp : Nat) (n : Int) (w : World) (V : ∀ w', Below w.heap.size w w' → Calls Tryd.prog 66 #[ptr hp] w' fun e w'' => e = .returned (.bool true) ∧ w' = w'') :
    Calls Tryd.prog 38 #[ptr hp, wd (0, n)] w fun e w' => e = .returned (.bool true) ∧ Below w.heap.size w w' := by
  have hb := box_below w (0, n)
  have HV := Lib.hid (V _ hb)
  clear V
  go_enter Tryd.func38, Tryd.ntmps38
  go_wp2_with fail
  refine HV.out.mono ?_
  rintro e w1 ⟨rfl, rfl⟩
  go_wp2_with fail
  go_ret
  exact ⟨rfl, hb⟩
set_option maxHeartbeats 2000000 in
theorem live_1 (hp : Nat) (n : Int) (w : World) (V : ∀ w', Below w.heap.size w w' → Calls Tryd.prog 66 #[ptr hp] w' fun e w'' => e = .returned (.bool true) ∧ w' = w'') :
    Calls Tryd.prog 38 #[ptr hp, wd (1, n)] w fun e w' => e = .returned (.bool true) ∧ Below w.heap.size w w' := by
  have hb := box_below w (1, n)
  have HV := Lib.hid (V _ hb)
  clear V
  go_enter Tryd.func38, Tryd.ntmps38
  go_wp2_with fail
  refine HV.out.mono ?_
  rintro e w1 ⟨rfl, rfl⟩
  go_wp2_with fail
  go_ret
  exact ⟨rfl, hb⟩
set_option maxHeartbeats 2000000 in
theorem live_5 (hp : Nat) (n : Int) (w : World) (V : ∀ w', Below w.heap.size w w' → Calls Tryd.prog 66 #[ptr hp] w' fun e w'' => e = .returned (.bool true) ∧ w' = w'') :
    Calls Tryd.prog 38 #[ptr hp, wd (5, n)] w fun e w' => e = .returned (.bool true) ∧ Below w.heap.size w w' := by
  have hb := box_below w (5, n)
  have HV := Lib.hid (V _ hb)
  clear V
  go_enter Tryd.func38, Tryd.ntmps38
  go_wp2_with fail
  refine HV.out.mono ?_
  rintro e w1 ⟨rfl, rfl⟩
  go_wp2_with fail
  go_ret
  exact ⟨rfl, hb⟩
set_option maxHeartbeats 2000000 in
theorem live_7 (hp : Nat) (n : Int) (w : World) (V : ∀ w', Below w.heap.size w w' → Calls Tryd.prog 66 #[ptr hp] w' fun e w'' => e = .returned (.bool true) ∧ w' = w'') :
    Calls Tryd.prog 38 #[ptr hp, wd (7, n)] w fun e w' => e = .returned (.bool true) ∧ Below w.heap.size w w' := by
  have hb := box_below w (7, n)
  have HV := Lib.hid (V _ hb)
  clear V
  go_enter Tryd.func38, Tryd.ntmps38
  go_wp2_with fail
  refine HV.out.mono ?_
  rintro e w1 ⟨rfl, rfl⟩
  go_wp2_with fail
  go_ret
  exact ⟨rfl, hb⟩
set_option maxHeartbeats 2000000 in
theorem live_8 (hp : Nat) (n : Int) (w : World) (V : ∀ w', Below w.heap.size w w' → Calls Tryd.prog 66 #[ptr hp] w' fun e w'' => e = .returned (.bool true) ∧ w' = w'') :
    Calls Tryd.prog 38 #[ptr hp, wd (8, n)] w fun e w' => e = .returned (.bool true) ∧ Below w.heap.size w w' := by
  have hb := box_below w (8, n)
  have HV := Lib.hid (V _ hb)
  clear V
  go_enter Tryd.func38, Tryd.ntmps38
  go_wp2_with fail
  refine HV.out.mono ?_
  rintro e w1 ⟨rfl, rfl⟩
  go_wp2_with fail
  go_ret
  exact ⟨rfl, hb⟩
set_option maxHeartbeats 2000000 in
theorem live_9 (hp : Nat) (n : Int) (w : World) (V : ∀ w', Below w.heap.size w w' → Calls Tryd.prog 66 #[ptr hp] w' fun e w'' => e = .returned (.bool true) ∧ w' = w'') :
    Calls Tryd.prog 38 #[ptr hp, wd (9, n)] w fun e w' => e = .returned (.bool true) ∧ Below w.heap.size w w' := by
  have hb := box_below w (9, n)
  have HV := Lib.hid (V _ hb)
  clear V
  go_enter Tryd.func38, Tryd.ntmps38
  go_wp2_with fail
  refine HV.out.mono ?_
  rintro e w1 ⟨rfl, rfl⟩
  go_wp2_with fail
  go_ret
  exact ⟨rfl, hb⟩
set_option maxHeartbeats 2000000 in
theorem live_10 (hp : Nat) (n : Int) (w : World) (V : ∀ w', Below w.heap.size w w' → Calls Tryd.prog 66 #[ptr hp] w' fun e w'' => e = .returned (.bool true) ∧ w' = w'') :
    Calls Tryd.prog 38 #[ptr hp, wd (10, n)] w fun e w' => e = .returned (.bool true) ∧ Below w.heap.size w w' := by
  have hb := box_below w (10, n)
  have HV := Lib.hid (V _ hb)
  clear V
  go_enter Tryd.func38, Tryd.ntmps38
  go_wp2_with fail
  refine HV.out.mono ?_
  rintro e w1 ⟨rfl, rfl⟩
  go_wp2_with fail
  go_ret
  exact ⟨rfl, hb⟩
theorem live_any {w : World} {base hp lim : Nat} {ob : Obs} {lab : Nat → Option Lab} {P : Parts} (h : HeapIs w base hp lim ob lab P) (x : Wd) :
    Reads w 38 #[ptr hp, wd x] (.bool (liveO ob x)) := by
  intro w' hb
  have h' := h.below hb
  have hV := Get.valid_any h'
  obtain ⟨k, n⟩ := x
  unfold liveO
  cases ha : always k with
  | true =>
    rw [Bool.true_or]
    simp only [always, Bool.or_eq_true, beq_iff_eq] at ha
    rcases ha with (((((rfl | rfl) | rfl) | rfl) | rfl) | rfl) | rfl
    · exact live_0 hp n w' hV
    · exact live_1 hp n w' hV
    · exact live_5 hp n w' hV
    · exact live_7 hp n w' hV
    · exact live_8 hp n w' hV
    · exact live_9 hp n w' hV
    · exact live_10 hp n w' hV
  | false =>
    rw [Bool.false_or]
    obtain ⟨v, hv, _, hr⟩ := find_any h' (k, n)
    cases hf : findO ob (k, n) with
    | none =>
      rw [hf] at hv
      obtain rfl := hv
      exact live_findNone hp k n w' hV hr ha
    | some o =>
      rw [hf] at hv
      obtain ⟨t, p, rfl⟩ := Add.some_iface hv
      exact live_findSome hp k n w' t p hV hr ha
end Go.Proofs.YtcdlfgggmigcnaaDoor.Elem
