/- The contracts of Cons and Vec. -/
import Derived.Test.YtcdlfgggmigcnaaDoorAdd2
import Derived.Test.YtcdlfgggmigcnaaDoorClone
namespace Go.Proofs.YtcdlfgggmigcnaaDoor.Make
set_option maxRecDepth 100000
open Go.RowKit
open Go.Proofs.YtcdlfgggmigcnaaDoor.Own Go.Proofs.YtcdlfgggmigcnaaDoor.Hp Go.Proofs.YtcdlfgggmigcnaaDoor.HeapOrd Go.Proofs.YtcdlfgggmigcnaaDoor.Rep Go.Proofs.YtcdlfgggmigcnaaDoor.Base Go.Proofs.YtcdlfgggmigcnaaDoor.Get Go.Proofs.YtcdlfgggmigcnaaDoor.Size Go.Proofs.YtcdlfgggmigcnaaDoor.Add Go.Proofs.YtcdlfgggmigcnaaDoor.Clone

/-- From the world in which add is called to the one in which its caller ends. -/
theorem make_end {w w1 w2 : World} {base hp lim n r : Nat} {ob ob' : Obs} {lab labO : Nat → Option Lab} {P : Parts} {cs : Array Value} {t : TypeId} (h : HeapIs w base hp lim ob lab P) (hb : Below w.heap.size w w1) (_hn : NewLab w1 base n labO lab)
    (hO : ∀ b, labO b ≠ none → w.heap.size ≤ b) (hr1 : w.heap.size ≤ r) (hr : labO r = none) (hB : Blk w1 r cs t) (hok : AddOk w1 w2 base hp lim ob' (both labO lab)) :
    Blk w2 r cs t ∧ (∀ x y, AddOk w ((w2.setCell ⟨r, 0, none⟩ x).setCell ⟨r, 1, none⟩ y) base hp lim ob' lab) := by
  obtain ⟨lab', P', hI, ha⟩ := hok
  have hr2 := hB.lt
  have nr : both labO lab r = none := by
    unfold both
    rw [hr]
    cases hh : lab r with
    | none => rfl
    | some l => have := (h.inb r l hh).2; omega
  have hof : ∀ b, b < w.heap.size → Of (both labO lab) b → Of lab b := fun b hlt hb' => by
    unfold Of both at hb'
    cases hh : labO b with
    | none => rw [hh] at hb'; exact hb'
    | some l => have := hO b (by rw [hh]; simp); omega
  have nl : lab' r = none := by
    cases hh : lab' r with
    | none => rfl
    | some l =>
      rcases ha.grow r (by unfold Of; rw [hh]; simp) with e | e
      · exact absurd nr e
      · omega
  refine ⟨hB.keeps ha.keeps (by unfold Of; rw [nr]; simp), fun x y => ?_⟩
  have kr : Keeps (fun b => b = r) w2 ((w2.setCell ⟨r, 0, none⟩ x).setCell ⟨r, 1, none⟩ y) := ((Keeps.refl (fun b => b = r) w2).setCell ⟨r, 0, none⟩ _ fun _ => rfl).setCell ⟨r, 1, none⟩ _ fun _ => rfl
  refine ⟨lab', P', hI.keeps kr fun b hb => by subst hb; exact nl, ?_, ?_⟩
  · exact ((Keeps.of_below (F := Of lab) hb).then ha.keeps hof).then kr fun b hlt e => by omega
  · intro b hb'
    rcases ha.grow b hb' with e | e
    · by_cases hlt : b < w.heap.size
      · exact .inl (hof b hlt e)
      · exact .inr (by omega)
    · exact .inr (Nat.le_trans hb.size e)

/-- Labels for one block of an object, and for a block and the rows that it leads to. -/
def lab1 (g n : Nat) (b : Nat) : Option Lab := if b = g then some (.obj n) else none
def lab2 (g n : Nat) (rv : Value) (b : Nat) : Option Lab := if b = g then some (.obj n) else if rv.ownBlock = some b then some (.row n) else none

theorem SlAt.of_owns {w : World} {lab : Nat → Option Lab} {k : Lab} {base : Nat} {e : TypeId} {size : Nat} {v : Value} {n : Nat} {xs : List Value} (h : w.ownsRow base e size v n xs) (hl : ∀ b, v.ownBlock = some b → lab b = some k) : SlAt w lab k v n xs := by
  have hh := h
  rcases h.2 with ⟨rfl, rfl⟩ | ⟨g, cap, cur, rfl, hb, hg, hcap, _, hcs, htake⟩
  · exact ⟨none, 0, rfl, Nat.le_refl _, fun h => absurd h (by simp)⟩
  · exact ⟨_, cap, rfl, hcap, fun _ => ⟨g, rfl, hl g rfl, Row.of_owns hh⟩⟩

theorem owns_base' {w : World} {base base' : Nat} {e : TypeId} {size : Nat} {v : Value} {n : Nat} {xs : List Value} (h : w.ownsRow base e size v n xs) (hb : base' ≤ base) : w.ownsRow base' e size v n xs := by
  refine ⟨h.1, ?_⟩
  rcases h.2 with h0 | ⟨g, cap, cur, hv, hbg, rest⟩
  · exact .inl h0
  · exact .inr ⟨g, cap, cur, hv, by omega, rest⟩
theorem lab_none {w : World} {base hp lim : Nat} {ob : Obs} {lab : Nat → Option Lab} {P : Parts} (h : HeapIs w base hp lim ob lab P) {b : Nat} (hb : w.heap.size ≤ b) : lab b = none := by
  cases hh : lab b with
  | none => rfl
  | some l => have := (h.inb b l hh).2; omega

set_option maxHeartbeats 4000000 in
theorem cons_any {w : World} {base hp lim : Nat} {ob : Obs} {lab : Nat → Option Lab} {P : Parts} (h : HeapIs w base hp lim ob lab P) (hb : base ≤ w.heap.size) (x y : Wd) :
    Calls Tryd.prog 17 #[ptr hp, wd x, wd y] w fun e w' => e = .returned (.tuple #[wd (addO ob lim (.cons x y)).1, .int .i64 (addO ob lim (.cons x y)).2.1]) ∧ AddOk w w' base hp lim (addO ob lim (.cons x y)).2.2 lab := by
  obtain ⟨W1, hW1⟩ : ∃ W1, W1 = ((w.alloc (.cells #[.int .i64 x.1, .int .i64 x.2] 28)).alloc (.cells #[.int .i64 y.1, .int .i64 y.2] 28)).alloc (.cells #[.int .i64 0, .int .i64 0] 28) := ⟨_, rfl⟩
  have hb1 : Below w.heap.size w W1 := by rw [hW1]; exact (((Below.refl _ _).alloc (Nat.le_refl _) _).alloc (by simp) _).alloc (by simp; omega) _
  have hs1 : W1.heap.size = w.heap.size + 1 + 1 + 1 := by rw [hW1]; simp
  have hr1 : Blk W1 (w.heap.size + 1 + 1) #[.int .i64 0, .int .i64 0] 28 := by rw [hW1]; have := Blk.new ((w.alloc (.cells #[.int .i64 x.1, .int .i64 x.2] 28)).alloc (.cells #[.int .i64 y.1, .int .i64 y.2] 28)) #[.int .i64 0, .int .i64 0] 28; simpa using this
  have hb2 := hb1.alloc hb1.size (.cells #[.int .i64 x.1, .int .i64 x.2, .int .i64 y.1, .int .i64 y.2] 110)
  have hnl : NewLab (W1.alloc (.cells #[.int .i64 x.1, .int .i64 x.2, .int .i64 y.1, .int .i64 y.2] 110)) base (freeTo ob lim) (lab1 W1.heap.size (freeTo ob lim)) lab := by
    refine ⟨fun b l hl => ?_, fun b l hl => ?_⟩
    · unfold lab1 at hl
      split at hl
      · rename_i e
        subst e
        exact ⟨lab_none h hb1.size, by omega, by simp⟩
      · cases hl
    · unfold lab1 at hl
      split at hl
      · cases hl; rfl
      · cases hl
  have hA := add_any (h.below hb2) hnl (v := .iface 108 (ptr W1.heap.size)) (o := .cons x y) ⟨_, rfl, by simp [lab1], Blk.new _ _ _⟩ trivial (Nat.le_trans hb hb2.size)
  have hE := fun w2 ob' => make_end (w2 := w2) (ob' := ob') h hb2 hnl (fun b hl => by
    unfold lab1 at hl
    split at hl
    · rename_i e; have := hb1.size; omega
    · exact absurd rfl hl) (r := w.heap.size + 1 + 1) (by omega) (by unfold lab1; rw [if_neg (by omega)]) (hr1.alloc _)
  rw [hs1] at hA
  simp only [hs1] at hE
  rw [hW1] at hA
  simp only [hW1] at hE
  generalize (addO ob lim (.cons x y)).1 = R at *
  generalize (addO ob lim (.cons x y)).2.1 = C at *
  generalize (addO ob lim (.cons x y)).2.2 = O at *
  have HA := Lib.hid hA
  have HE := Lib.hid hE
  have HV := Lib.hid (valid_any h _ hb1)
  rw [hW1] at HV
  clear hA hE hnl hb2 hr1 hs1 hb1 hW1 h hb
  go_enter Tryd.func17, Tryd.ntmps17
  go_wp2_with fail
  refine HV.out.mono ?_
  rintro e w1 ⟨rfl, rfl⟩
  go_wp2_with fail
  refine HA.out.mono ?_
  rintro e w2 ⟨rfl, hok⟩
  obtain ⟨hB2, hfin⟩ := HE.out w2 O hok
  obtain ⟨b0, b1, e0, e1⟩ := hB2.two
  have HF := Lib.hid hfin
  clear hok hB2 hfin
  go_wp2_with fail
  refine bodyPost_ret (v := .tuple #[wd R, .int .i64 C]) (by simp [results, Tryd.results17, go_sem, b0, b1]) rfl ⟨rfl, HF.out _ _⟩
end Go.Proofs.YtcdlfgggmigcnaaDoor.Make
