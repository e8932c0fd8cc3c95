/- Symbol tables: what they hold, and how they lie in memory. | The contracts of the methods of a table that only read it: valid, symbol, Find, Name, Many, Interned. -/
import Derived.Shelf.SlMaps.Clone
import Derived.WalkSpells
import Derived.WalkLawsBesides
import Derived.RegionTactic
import Derived.BigQuiet
import Derived.Deep.QuietTactic
import Derived.BigGuardPart
import Derived.Test.YtlibdhnlmekmhaaGreatDoorMgNames01
/- Symbol tables: what they hold, and how they lie in memory. -/
section
namespace Go.Proofs.YtlibdhnlmekmhaaGreatDoor.Nt
open Go.RowKit
open Go.Proofs.YtlibdhnlmekmhaaGreatDoor.Own Go.Proofs.YtlibdhnlmekmhaaGreatDoor.Nt

abbrev Wd := Int × Int
/-- A symbol. -/
structure Sy where
  name : ByteArray
  fn : Wd
  has : Bool
  props : List (Int × Wd)
/-- A table: its symbols by their numbers, and which are found by a name. -/
structure Tb where
  syms : List Sy
  find : ByteArray → Option Nat

/-- What a block of a table is for. -/
inductive TLab where
  | hdr
  | syms
  | map
  | props (n : Nat)

abbrev wdv (w : Wd) : Value := .agg #[.int .i64 w.1, .int .i64 w.2]
/-- A symbol in memory, p its slice of properties. -/
def syCells (s : Sy) (p : Value) : List Value := [.string s.name, .int .i64 s.fn.1, .int .i64 s.fn.2, .bool s.has, p]
def scells : List Sy → (Nat → Value) → Nat → List Value
  | [], _, _ => []
  | s :: l, ps, k => syCells s (ps k) ++ scells l ps (k + 1)
def pcells : List (Int × Wd) → List Value
  | [] => []
  | x :: l => .int .i64 x.1 :: .int .i64 x.2.1 :: .int .i64 x.2.2 :: pcells l

theorem scells_length (l : List Sy) (ps : Nat → Value) (k : Nat) : (scells l ps k).length = l.length * 5 := by
  induction l generalizing k with
  | nil => rfl
  | cons s l ih => simp only [scells, List.length_append, ih, List.length_cons, syCells, List.length_nil]; omega
theorem scells_append (l : List Sy) (s : Sy) (ps : Nat → Value) (k : Nat) : scells (l ++ [s]) ps k = scells l ps k ++ syCells s (ps (k + l.length)) := by
  induction l generalizing k with
  | nil => simp [scells]
  | cons x l ih => simp only [List.cons_append, scells, ih, List.append_assoc, List.length_cons]; rw [show k + 1 + l.length = k + (l.length + 1) by omega]
theorem scells_get (l : List Sy) (ps : Nat → Value) (k j : Nat) : (scells l ps k)[j]? = (l[j / 5]?).bind fun s => (syCells s (ps (k + j / 5)))[j % 5]? := by
  induction l generalizing k j with
  | nil => simp [scells]
  | cons s l ih =>
    rw [scells]
    by_cases h : j < 5
    · rw [List.getElem?_append_left (by simp [syCells]; omega), show j / 5 = 0 by omega, show j % 5 = j by omega]
      simp
    · have hl : (syCells s (ps k)).length = 5 := rfl
      rw [List.getElem?_append_right (by rw [hl]; omega), hl, ih, show j / 5 = (j - 5) / 5 + 1 by omega, show j % 5 = (j - 5) % 5 by omega, List.getElem?_cons_succ, show k + 1 + (j - 5) / 5 = k + ((j - 5) / 5 + 1) by omega]
theorem scells_at (l : List Sy) (ps : Nat → Value) (i : Nat) (s : Sy) (h : l[i]? = some s) (j : Nat) (hj : j < 5) : (scells l ps 0)[i * 5 + j]? = (syCells s (ps i))[j]? := by
  rw [scells_get, show (i * 5 + j) / 5 = i by omega, show (i * 5 + j) % 5 = j by omega, h]
  simp
theorem scells_congr (l : List Sy) (ps qs : Nat → Value) (k : Nat) (h : ∀ i, i < l.length → ps (k + i) = qs (k + i)) : scells l ps k = scells l qs k := by
  induction l generalizing k with
  | nil => rfl
  | cons s l ih =>
    rw [scells, scells, ih (k + 1) fun i hi => by rw [show k + 1 + i = k + (i + 1) by omega]; exact h (i + 1) (by simp; omega), show ps k = qs k from h 0 (by simp)]
theorem pcells_length (l : List (Int × Wd)) : (pcells l).length = l.length * 3 := by
  induction l with
  | nil => rfl
  | cons x l ih => simp only [pcells, List.length_cons, ih]; omega
theorem pcells_append (a b : List (Int × Wd)) : pcells (a ++ b) = pcells a ++ pcells b := by
  induction a with
  | nil => rfl
  | cons x l ih => simp [pcells, ih]
theorem syCells_one (s : Sy) (A : Option Addr) (n c : Nat) : ∀ u ∈ syCells s (.slice A n c), u.oneCell' = true := by
  intro u hu
  simp [syCells] at hu
  rcases hu with rfl | rfl | rfl | rfl | rfl <;> rfl
theorem pcells_one (l : List (Int × Wd)) : ∀ u ∈ pcells l, u.oneCell' = true := by
  induction l with
  | nil => simp [pcells]
  | cons x l ih =>
    intro u hu
    simp only [pcells, List.mem_cons] at hu
    rcases hu with rfl | rfl | rfl | hu
    · rfl
    · rfl
    · rfl
    · exact ih u hu

/-- The parts of a table: the slice of its symbols, the block of its map, the slices of properties. -/
structure TParts where
  sv : Value
  mb : Nat
  ps : Nat → Value

/-- Keys in ascending order, each once. -/
def Asc (l : List (Int × Wd)) : Prop := l.Pairwise fun x y => x.1 < y.1

/-- A table in memory. -/
structure TabIs (w : World) (base tp : Nat) (t : Tb) (lab : Nat → Option TLab) (P : TParts) : Prop where
  inb : ∀ b l, lab b = some l → base ≤ b ∧ b < w.heap.size
  hdr : lab tp = some .hdr
  blk : Blk w tp #[P.sv, .map (some P.mb)] 109
  mlab : lab P.mb = some .map
  map : MapIs w P.mb t.find t.syms.length
  syms : w.ownsRow base 187 5 P.sv t.syms.length (scells t.syms P.ps 0)
  slab : ∀ k, P.sv.ownBlock = some k → lab k = some .syms
  props : ∀ (i : Nat) (s : Sy), t.syms[i]? = some s → w.ownsRow base 285 3 (P.ps i) s.props.length (pcells s.props)
  plab : ∀ i k, (P.ps i).ownBlock = some k → lab k = some (.props i)
  tail : ∀ i, t.syms.length ≤ i → P.ps i = .slice none 0 0
  many : t.syms.length ≤ 16384
  pmany : ∀ (i : Nat) (s : Sy), t.syms[i]? = some s → s.props.length ≤ 16384
  small : ∀ (i : Nat) (s : Sy), t.syms[i]? = some s → s.name.size ≤ 4611686018427387904
  found : ∀ s (n : Nat), t.find s = some n → ∃ y : Sy, t.syms[n]? = some y ∧ y.name = s
  sorted : ∀ (i : Nat) (s : Sy), t.syms[i]? = some s → Asc s.props

def TOf (lab : Nat → Option TLab) (b : Nat) : Prop := lab b ≠ none

theorem TabIs.keeps {F : Nat → Prop} {w w' : World} {base tp : Nat} {t : Tb} {lab : Nat → Option TLab} {P : TParts} (h : TabIs w base tp t lab P) (hk : Keeps F w w') (hF : ∀ b, F b → lab b = none) : TabIs w' base tp t lab P := by
  have hn : ∀ g k, lab g = some k → ¬ F g := fun g k hg hf => by rw [hF g hf] at hg; cases hg
  exact { h with
    inb := fun b l hb => ⟨(h.inb b l hb).1, Nat.lt_of_lt_of_le (h.inb b l hb).2 hk.size⟩
    blk := h.blk.keeps hk (hn _ _ h.hdr)
    map := h.map.keeps hk (hn _ _ h.mlab)
    syms := owns_keeps h.syms hk fun k hv => hn _ _ (h.slab k hv)
    props := fun i s hs => owns_keeps (h.props i s hs) hk fun k hv => hn _ _ (h.plab i k hv) }
theorem TabIs.below {w w' : World} {base tp : Nat} {t : Tb} {lab : Nat → Option TLab} {P : TParts} (h : TabIs w base tp t lab P) (hk : Below w.heap.size w w') : TabIs w' base tp t lab P :=
  h.keeps (F := fun _ => False) (.of_below hk) fun _ hf => hf.elim
theorem TabIs.drewN {w : World} {base tp : Nat} {t : Tb} {lab : Nat → Option TLab} {P : TParts} (h : TabIs w base tp t lab P) (q : Nat) : TabIs (w.drewN q) base tp t lab P :=
  h.below ⟨rfl, rfl, rfl, Nat.le_refl _, fun _ _ => rfl⟩

/-- What a change of a table leaves. -/
structure TAfter (w w' : World) (lab lab' : Nat → Option TLab) : Prop where
  keeps : Keeps (TOf lab) w w'
  grow : ∀ b, TOf lab' b → TOf lab b ∨ w.heap.size ≤ b
theorem TAfter.refl (w : World) (lab : Nat → Option TLab) : TAfter w w lab lab := ⟨.refl _ _, fun _ h => .inl h⟩
theorem TAfter.below {w w' : World} {lab : Nat → Option TLab} (h : Below w.heap.size w w') : TAfter w w' lab lab := ⟨.of_below h, fun _ h => .inl h⟩
theorem TAfter.trans {w w1 w2 : World} {lab lab1 lab2 : Nat → Option TLab} (h : TAfter w w1 lab lab1) (k : TAfter w1 w2 lab1 lab2) : TAfter w w2 lab lab2 := by
  refine ⟨h.keeps.then k.keeps fun b hb hf => ?_, fun b hb => ?_⟩
  · rcases h.grow b hf with e | e
    · exact e
    · omega
  · rcases k.grow b hb with e | e
    · exact h.grow b e
    · exact .inr (Nat.le_trans h.keeps.size e)
theorem TAfter.bel {w w' : World} {base tp : Nat} {t : Tb} {lab lab' : Nat → Option TLab} {P : TParts} (h : TabIs w base tp t lab P) (hb : base ≤ w.heap.size) (ha : TAfter w w' lab lab') : Below base w w' :=
  ha.keeps.below hb fun k hk => by
    cases hh : lab k with
    | none => exact absurd hh hk
    | some l => exact (h.inb k l hh).1
def TabOk (w w' : World) (base tp : Nat) (t' : Tb) (lab : Nat → Option TLab) : Prop := ∃ lab' P', TabIs w' base tp t' lab' P' ∧ TAfter w w' lab lab'
theorem TabIs.fresh {w : World} {base tp b : Nat} {t : Tb} {lab : Nat → Option TLab} {P : TParts} (h : TabIs w base tp t lab P) (hb : w.heap.size ≤ b) : lab b = Option.none := by
  cases hh : lab b with
  | none => rfl
  | some l => have := (h.inb b l hh).2; omega
end Go.Proofs.YtlibdhnlmekmhaaGreatDoor.Nt
end

/- The contracts of the methods of a table that only read it: valid, symbol, Find, Name, Many, Interned. -/
section
namespace Go.Proofs.YtlibdhnlmekmhaaGreatDoor.Nt
set_option maxRecDepth 100000
open Go.RowKit
open Go.Proofs.YtlibdhnlmekmhaaGreatDoor.Own Go.Proofs.YtlibdhnlmekmhaaGreatDoor.Nt Go.Proofs.YtlibdhnlmekmhaaGreatDoor.Nt

abbrev tptr (tp : Nat) : Value := .pointer (some ⟨tp, 0, none⟩)
theorem map_neq_nil (b : Nat) (w : World) : (binOp .neq 107 (.map (some b)) (.map none)).run Tryz.prog w = .ok (.bool true) w := by kernel_rfl

theorem valid_null (w : World) : Calls Tryz.prog 75 #[.pointer none] w fun e w' => e = .returned (.bool false) ∧ w = w' := by
  go_enter Tryz.func75, Tryz.ntmps75
  go_wp2
  go_ret
  exact ⟨rfl, rfl⟩
theorem valid_core (tp mb : Nat) (w : World) (c : w.cell? ⟨tp, 1, none⟩ = some (.map (some mb))) : Calls Tryz.prog 75 #[tptr tp] w fun e w' => e = .returned (.bool true) ∧ w = w' := by
  have hn := map_neq_nil mb
  go_enter Tryz.func75, Tryz.ntmps75
  go_wp2
  go_ret
  exact ⟨rfl, rfl⟩

/-- The symbol of a number. -/
def symO (t : Tb) (i : Int) : Option Sy := if i < 0 then none else t.syms[i.toNat]?
theorem symO_nat (t : Tb) (k : Nat) : symO t (k : Int) = t.syms[k]? := by
  unfold symO
  rw [if_neg (by omega)]
  rfl
theorem symO_some {t : Tb} {i : Int} {s : Sy} (h : symO t i = some s) : ∃ k : Nat, i = (k : Int) ∧ k < t.syms.length ∧ t.syms[k]? = some s := by
  unfold symO at h
  split at h
  · cases h
  · exact ⟨i.toNat, by omega, (List.getElem?_eq_some_iff.1 h).1, h⟩
theorem symO_none {t : Tb} {i : Int} (h : symO t i = none) : i < 0 ∨ (t.syms.length : Int) ≤ i := by
  unfold symO at h
  split at h
  · left; omega
  · right
    rw [List.getElem?_eq_none_iff] at h
    omega

/-- The two cells of a table's header. -/
theorem TabIs.two {w : World} {base tp : Nat} {t : Tb} {lab : Nat → Option TLab} {P : TParts} (h : TabIs w base tp t lab P) : w.cell? ⟨tp, 0, none⟩ = some P.sv ∧ w.cell? ⟨tp, 1, none⟩ = some (.map (some P.mb)) :=
  ⟨h.blk.cell 0 _ rfl, h.blk.cell 1 _ rfl⟩
theorem TabIs.valid {w : World} {base tp : Nat} {t : Tb} {lab : Nat → Option TLab} {P : TParts} (h : TabIs w base tp t lab P) : Calls Tryz.prog 75 #[tptr tp] w fun e w' => e = .returned (.bool true) ∧ w = w' :=
  valid_core tp P.mb w h.two.2
/-- Where the symbols lie, if there is one. -/
theorem TabIs.row {w : World} {base tp : Nat} {t : Tb} {lab : Nat → Option TLab} {P : TParts} (h : TabIs w base tp t lab P) (hn : 0 < t.syms.length) : ∃ g cap, P.sv = .slice (some ⟨g, 0, none⟩) t.syms.length cap ∧ t.syms.length ≤ cap ∧ cap ≤ maxLen := by
  rcases h.syms.2 with ⟨_, h0⟩ | ⟨g, cap, cur, hv, _, _, h1, h2, _⟩
  · omega
  · exact ⟨g, cap, hv, h1, h2⟩
theorem TabIs.sl {w : World} {base tp : Nat} {t : Tb} {lab : Nat → Option TLab} {P : TParts} (h : TabIs w base tp t lab P) : ∃ A cap, P.sv = .slice A t.syms.length cap := by
  rcases h.syms.2 with ⟨h1, h0⟩ | ⟨g, cap, cur, hv, _⟩
  · exact ⟨none, 0, by rw [h1, h0]⟩
  · exact ⟨_, _, hv⟩
/-- Where a symbol lies. -/
theorem TabIs.symRow {w : World} {base tp : Nat} {t : Tb} {lab : Nat → Option TLab} {P : TParts} (h : TabIs w base tp t lab P) (k : Nat) (s : Sy) (hs : t.syms[k]? = some s) :
    ∃ g cap, P.sv = .slice (some ⟨g, 0, none⟩) t.syms.length cap ∧ lab g = some .syms ∧ Row w g (scells t.syms P.ps 0) := by
  have hk : k < t.syms.length := (List.getElem?_eq_some_iff.1 hs).1
  obtain ⟨g, cap, hv, _⟩ := h.row (by omega)
  have ho := h.syms
  rw [hv] at ho
  exact ⟨g, cap, hv, h.slab g (by rw [hv]; rfl), Row.of_owns ho⟩
/-- The cells of a symbol. -/
theorem sy_cells {w : World} {g : Nat} {l : List Sy} {ps : Nat → Value} (h : Row w g (scells l ps 0)) (k : Nat) (s : Sy) (hs : l[k]? = some s) :
    w.cell? ⟨g, k * 5, none⟩ = some (.string s.name) ∧ w.cell? ⟨g, k * 5 + 1, none⟩ = some (.int .i64 s.fn.1) ∧ w.cell? ⟨g, k * 5 + 2, none⟩ = some (.int .i64 s.fn.2) ∧ w.cell? ⟨g, k * 5 + 3, none⟩ = some (.bool s.has) ∧ w.cell? ⟨g, k * 5 + 4, none⟩ = some (ps k) :=
  ⟨h.cell _ _ (scells_at l ps k s hs 0 (by omega)), h.cell _ _ (scells_at l ps k s hs 1 (by omega)), h.cell _ _ (scells_at l ps k s hs 2 (by omega)), h.cell _ _ (scells_at l ps k s hs 3 (by omega)), h.cell _ _ (scells_at l ps k s hs 4 (by omega))⟩

theorem many_core (tp mb n cap : Nat) (A : Option Addr) (w : World) (c0 : w.cell? ⟨tp, 0, none⟩ = some (.slice A n cap)) (c1 : w.cell? ⟨tp, 1, none⟩ = some (.map (some mb))) :
    Calls Tryz.prog 26 #[tptr tp] w fun e w' => e = .returned (.int .i64 (n : Int)) ∧ w = w' := by
  have HV := Lib.hid (valid_core tp mb w c1)
  clear c1
  go_enter Tryz.func26, Tryz.ntmps26
  go_wp2_with (go_at_call 75; refine HV.out.mono ?_; rintro e w' ⟨rfl, rfl⟩)
  go_ret
  exact ⟨rfl, rfl⟩
theorem many_any {w : World} {base tp : Nat} {t : Tb} {lab : Nat → Option TLab} {P : TParts} (h : TabIs w base tp t lab P) : Calls Tryz.prog 26 #[tptr tp] w fun e w' => e = .returned (.int .i64 (t.syms.length : Int)) ∧ w = w' := by
  obtain ⟨A, cap, hv⟩ := h.sl
  have h2 := h.two
  rw [hv] at h2
  exact many_core tp P.mb _ cap A w h2.1 h2.2
theorem many_null (w : World) : Calls Tryz.prog 26 #[.pointer none] w fun e w' => e = .returned (.int .i64 0) ∧ w = w' := by
  have HV := Lib.hid valid_null
  go_enter Tryz.func26, Tryz.ntmps26
  go_wp2_with (go_at_call 75; refine (HV.out _).mono ?_; rintro e w' ⟨rfl, rfl⟩)
  go_ret
  exact ⟨rfl, rfl⟩

set_option maxHeartbeats 1000000 in
theorem find_any {w : World} {base tp : Nat} {t : Tb} {lab : Nat → Option TLab} {P : TParts} (h : TabIs w base tp t lab P) (s : ByteArray) (hs : s.size ≤ maxLen) :
    Calls Tryz.prog 186 #[tptr tp, .string s] w fun e w' => e = .returned (.tuple #[.int .i64 (((t.find s).getD 0 : Nat) : Int), .bool (t.find s).isSome]) ∧ w = w' := by
  have HV := Lib.hid h.valid
  have hl := h.map.look s hs
  have c1 := h.two.2
  generalize ((t.find s).getD 0 : Nat) = n at *
  generalize (t.find s).isSome = b at *
  clear h
  go_enter Tryz.func186, Tryz.ntmps186
  go_wp2_with (go_at_call 75; refine HV.out.mono ?_; rintro e w' ⟨rfl, rfl⟩)
  go_ret2
  exact ⟨rfl, rfl⟩
theorem find_null (s : ByteArray) (w : World) : Calls Tryz.prog 186 #[.pointer none, .string s] w fun e w' => e = .returned (.tuple #[.int .i64 0, .bool false]) ∧ w = w' := by
  have HV := Lib.hid valid_null
  go_enter Tryz.func186, Tryz.ntmps186
  go_wp2_with (go_at_call 75; refine (HV.out _).mono ?_; rintro e w' ⟨rfl, rfl⟩)
  go_ret2
  exact ⟨rfl, rfl⟩

/-- What Name returns. -/
def nameO (t : Tb) (i : Int) : ByteArray × Bool := match symO t i with | some s => (s.name, true) | none => (⟨#[]⟩, false)
/-- What Interned returns. -/
def internedO (t : Tb) (i : Int) : Bool := match symO t i with | some s => (match t.find s.name with | some n => (n : Int) == i | none => false) | none => false
end Go.Proofs.YtlibdhnlmekmhaaGreatDoor.Nt
end
