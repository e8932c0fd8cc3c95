/- The contracts of the methods of a table that only read it: valid, symbol, Find, Name, Many, Interned. -/
import Derived.Shelf.SlMaps.Clone
import Derived.WalkSpells
import Derived.WalkLawsBesides
import Derived.RegionTactic
import Derived.BigQuiet
import Derived.Deep.QuietTactic
import Derived.BigGuardPart
import Derived.Test.YtlibdhnlmekmhaaGreatDoorMg01
namespace Go.Proofs.YtlibdhnlmekmhaaGreatDoor.Nt
set_option maxRecDepth 100000
open Go.RowKit
open Go.Proofs.YtlibdhnlmekmhaaGreatDoor.Own Go.Proofs.YtlibdhnlmekmhaaGreatDoor.Nt Go.Proofs.YtlibdhnlmekmhaaGreatDoor.Nt

abbrev tptr (tp : Nat) : Value := .pointer (some ⟨tp, 0, none⟩)
theorem map_neq_nil (b : Nat) (w : World) : (binOp .neq 107 (.map (some b)) (.map none)).run Tryz.prog w = .ok (.bool true) w := by kernel_rfl

theorem valid_null (w : World) : Calls Tryz.prog 75 #[.pointer none] w fun e w' => e = .returned (.bool false) ∧ w = w' := by
  go_enter Tryz.func75, Tryz.ntmps75
  go_wp2
  go_ret
  exact ⟨rfl, rfl⟩
theorem valid_core (tp mb : Nat) (w : World) (c : w.cell? ⟨tp, 1, none⟩ = some (.map (some mb))) : Calls Tryz.prog 75 #[tptr tp] w fun e w' => e = .returned (.bool true) ∧ w = w' := by
  have hn := map_neq_nil mb
  go_enter Tryz.func75, Tryz.ntmps75
  go_wp2
  go_ret
  exact ⟨rfl, rfl⟩

/-- The symbol of a number. -/
def symO (t : Tb) (i : Int) : Option Sy := if i < 0 then none else t.syms[i.toNat]?
theorem symO_nat (t : Tb) (k : Nat) : symO t (k : Int) = t.syms[k]? := by
  unfold symO
  rw [if_neg (by omega)]
  rfl
theorem symO_some {t : Tb} {i : Int} {s : Sy} (h : symO t i = some s) : ∃ k : Nat, i = (k : Int) ∧ k < t.syms.length ∧ t.syms[k]? = some s := by
  unfold symO at h
  split at h
  · cases h
  · exact ⟨i.toNat, by omega, (List.getElem?_eq_some_iff.1 h).1, h⟩
theorem symO_none {t : Tb} {i : Int} (h : symO t i = none) : i < 0 ∨ (t.syms.length : Int) ≤ i := by
  unfold symO at h
  split at h
  · left; omega
  · right
    rw [List.getElem?_eq_none_iff] at h
    omega

/-- The two cells of a table's header. -/
theorem TabIs.two {w : World} {base tp : Nat} {t : Tb} {lab : Nat → Option TLab} {P : TParts} (h : TabIs w base tp t lab P) : w.cell? ⟨tp, 0, none⟩ = some P.sv ∧ w.cell? ⟨tp, 1, none⟩ = some (.map (some P.mb)) :=
  ⟨h.blk.cell 0 _ rfl, h.blk.cell 1 _ rfl⟩
theorem TabIs.valid {w : World} {base tp : Nat} {t : Tb} {lab : Nat → Option TLab} {P : TParts} (h : TabIs w base tp t lab P) : Calls Tryz.prog 75 #[tptr tp] w fun e w' => e = .returned (.bool true) ∧ w = w' :=
  valid_core tp P.mb w h.two.2
/-- Where the symbols lie, if there is one. -/
theorem TabIs.row {w : World} {base tp : Nat} {t : Tb} {lab : Nat → Option TLab} {P : TParts} (h : TabIs w base tp t lab P) (hn : 0 < t.syms.length) : ∃ g cap, P.sv = .slice (some ⟨g, 0, none⟩) t.syms.length cap ∧ t.syms.length ≤ cap ∧ cap ≤ maxLen := by
  rcases h.syms.2 with ⟨_, h0⟩ | ⟨g, cap, cur, hv, _, _, h1, h2, _⟩
  · omega
  · exact ⟨g, cap, hv, h1, h2⟩
theorem TabIs.sl {w : World} {base tp : Nat} {t : Tb} {lab : Nat → Option TLab} {P : TParts} (h : TabIs w base tp t lab P) : ∃ A cap, P.sv = .slice A t.syms.length cap := by
  rcases h.syms.2 with ⟨h1, h0⟩ | ⟨g, cap, cur, hv, _⟩
  · exact ⟨none, 0, by rw [h1, h0]⟩
  · exact ⟨_, _, hv⟩
/-- Where a symbol lies. -/
theorem TabIs.symRow {w : World} {base tp : Nat} {t : Tb} {lab : Nat → Option TLab} {P : TParts} (h : TabIs w base tp t lab P) (k : Nat) (s : Sy) (hs : t.syms[k]? = some s) :
    ∃ g cap, P.sv = .slice (some ⟨g, 0, none⟩) t.syms.length cap ∧ lab g = some .syms ∧ Row w g (scells t.syms P.ps 0) := by
  have hk : k < t.syms.length := (List.getElem?_eq_some_iff.1 hs).1
  obtain ⟨g, cap, hv, _⟩ := h.row (by omega)
  have ho := h.syms
  rw [hv] at ho
  exact ⟨g, cap, hv, h.slab g (by rw [hv]; rfl), Row.of_owns ho⟩
/-- The cells of a symbol. -/
theorem sy_cells {w : World} {g : Nat} {l : List Sy} {ps : Nat → Value} (h : Row w g (scells l ps 0)) (k : Nat) (s : Sy) (hs : l[k]? = some s) :
    w.cell? ⟨g, k * 5, none⟩ = some (.string s.name) ∧ w.cell? ⟨g, k * 5 + 1, none⟩ = some (.int .i64 s.fn.1) ∧ w.cell? ⟨g, k * 5 + 2, none⟩ = some (.int .i64 s.fn.2) ∧ w.cell? ⟨g, k * 5 + 3, none⟩ = some (.bool s.has) ∧ w.cell? ⟨g, k * 5 + 4, none⟩ = some (ps k) :=
  ⟨h.cell _ _ (scells_at l ps k s hs 0 (by omega)), h.cell _ _ (scells_at l ps k s hs 1 (by omega)), h.cell _ _ (scells_at l ps k s hs 2 (by omega)), h.cell _ _ (scells_at l ps k s hs 3 (by omega)), h.cell _ _ (scells_at l ps k s hs 4 (by omega))⟩

theorem many_core (tp mb n cap : Nat) (A : Option Addr) (w : World) (c0 : w.cell? ⟨tp, 0, none⟩ = some (.slice A n cap)) (c1 : w.cell? ⟨tp, 1, none⟩ = some (.map (some mb))) :
    Calls Tryz.prog 26 #[tptr tp] w fun e w' => e = .returned (.int .i64 (n : Int)) ∧ w = w' := by
  have HV := Lib.hid (valid_core tp mb w c1)
  clear c1
  go_enter Tryz.func26, Tryz.ntmps26
  go_wp2_with (go_at_call 75; refine HV.out.mono ?_; rintro e w' ⟨rfl, rfl⟩)
  go_ret
  exact ⟨rfl, rfl⟩
theorem many_any {w : World} {base tp : Nat} {t : Tb} {lab : Nat → Option TLab} {P : TParts} (h : TabIs w base tp t lab P) : Calls Tryz.prog 26 #[tptr tp] w fun e w' => e = .returned (.int .i64 (t.syms.length : Int)) ∧ w = w' := by
  obtain ⟨A, cap, hv⟩ := h.sl
  have h2 := h.two
  rw [hv] at h2
  exact many_core tp P.mb _ cap A w h2.1 h2.2
theorem many_null (w : World) : Calls Tryz.prog 26 #[.pointer none] w fun e w' => e = .returned (.int .i64 0) ∧ w = w' := by
  have HV := Lib.hid valid_null
  go_enter Tryz.func26, Tryz.ntmps26
  go_wp2_with (go_at_call 75; refine (HV.out _).mono ?_; rintro e w' ⟨rfl, rfl⟩)
  go_ret
  exact ⟨rfl, rfl⟩

set_option maxHeartbeats 1000000 in
theorem find_any {w : World} {base tp : Nat} {t : Tb} {lab : Nat → Option TLab} {P : TParts} (h : TabIs w base tp t lab P) (s : ByteArray) (hs : s.size ≤ maxLen) :
    Calls Tryz.prog 186 #[tptr tp, .string s] w fun e w' => e = .returned (.tuple #[.int .i64 (((t.find s).getD 0 : Nat) : Int), .bool (t.find s).isSome]) ∧ w = w' := by
  have HV := Lib.hid h.valid
  have hl := h.map.look s hs
  have c1 := h.two.2
  generalize ((t.find s).getD 0 : Nat) = n at *
  generalize (t.find s).isSome = b at *
  clear h
  go_enter Tryz.func186, Tryz.ntmps186
  go_wp2_with (go_at_call 75; refine HV.out.mono ?_; rintro e w' ⟨rfl, rfl⟩)
  go_ret2
  exact ⟨rfl, rfl⟩
theorem find_null (s : ByteArray) (w : World) : Calls Tryz.prog 186 #[.pointer none, .string s] w fun e w' => e = .returned (.tuple #[.int .i64 0, .bool false]) ∧ w = w' := by
  have HV := Lib.hid valid_null
  go_enter Tryz.func186, Tryz.ntmps186
  go_wp2_with (go_at_call 75; refine (HV.out _).mono ?_; rintro e w' ⟨rfl, rfl⟩)
  go_ret2
  exact ⟨rfl, rfl⟩

/-- What Name returns. -/
def nameO (t : Tb) (i : Int) : ByteArray × Bool := match symO t i with | some s => (s.name, true) | none => (⟨#[]⟩, false)
/-- What Interned returns. -/
def internedO (t : Tb) (i : Int) : Bool := match symO t i with | some s => (match t.find s.name with | some n => (n : Int) == i | none => false) | none => false
end Go.Proofs.YtlibdhnlmekmhaaGreatDoor.Nt
