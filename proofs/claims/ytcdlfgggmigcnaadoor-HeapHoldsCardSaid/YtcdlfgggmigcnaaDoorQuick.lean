/- The contracts of Many, Room, Limit, Live and New. -/
import Derived.Test.YtcdlfgggmigcnaaDoorGet
import Derived.Laws.StructEq
namespace Go.Proofs.YtcdlfgggmigcnaaDoor.Quick
open Go.RowKit
open Go.Proofs.YtcdlfgggmigcnaaDoor.Own Go.Proofs.YtcdlfgggmigcnaaDoor.Hp Go.Proofs.YtcdlfgggmigcnaaDoor.HeapOrd Go.Proofs.YtcdlfgggmigcnaaDoor.Rep Go.Proofs.YtcdlfgggmigcnaaDoor.Base Go.Proofs.YtcdlfgggmigcnaaDoor.Find Go.Proofs.YtcdlfgggmigcnaaDoor.Get

set_option maxHeartbeats 1000000 in
theorem many_core (hp m n c1 c2 : Nat) (A B : Option Addr) (w : World) (V : ∀ w', Below w.heap.size w w' → Calls Tryd.prog 66 #[ptr hp] w' fun e w'' => e = .returned (.bool true) ∧ w' = w'')
    (h1 : w.cell? ⟨hp, 1, none⟩ = some (.slice A m c1)) (h2 : w.cell? ⟨hp, 2, none⟩ = some (.slice B n c2)) (hm : m ≤ 65536) (hn : n ≤ 65536) :
    Calls Tryd.prog 25 #[ptr hp] w fun e w' => e = .returned (.int .i64 ((m : Int) - n)) ∧ ∃ q, w' = w.drewN q := by
  have HV := Lib.hid (V w (Below.refl _ _))
  clear V
  go_enter Tryd.func25, Tryd.ntmps25
  go_wp2_with (go_at_call 66; refine HV.out.mono ?_; rintro e w' ⟨rfl, rfl⟩)
  go_quiet (fail)
  go_wp2
  go_ret
  exact ⟨rfl, _, rfl⟩
theorem slice_of {w : World} {base : Nat} {e : TypeId} {size : Nat} {v : Value} {n : Nat} {xs : List Value} (h : w.ownsRow base e size v n xs) : ∃ A c, v = .slice A n c := by
  rcases h.2 with ⟨rfl, rfl⟩ | ⟨g, cap, cur, rfl, _⟩
  · exact ⟨none, 0, rfl⟩
  · exact ⟨_, _, rfl⟩
theorem nf_le {w : World} {base hp lim : Nat} {ob : Obs} {lab : Nat → Option Lab} {P : Parts} (h : HeapIs w base hp lim ob lab P) : P.nf ≤ 65536 := by
  have := h.many
  have := h.m
  have := h.lim2
  omega
theorem many_any {w : World} {base hp lim : Nat} {ob : Obs} {lab : Nat → Option Lab} {P : Parts} (h : HeapIs w base hp lim ob lab P) :
    Calls Tryd.prog 25 #[ptr hp] w fun e w' => e = .returned (.int .i64 (manyTo ob lim)) ∧ ∃ q, w' = w.drewN q := by
  obtain ⟨A, c1, h1⟩ := slice_of h.objs
  obtain ⟨B, c2, h2⟩ := slice_of h.free
  have hm := h.many
  have h3 := h.m
  have h4 := h.lim2
  rw [show (manyTo ob lim : Int) = (P.m : Int) - P.nf from by omega]
  exact many_core hp P.m P.nf c1 c2 A B w (valid_any h) (by rw [← h1]; exact h.blk.cell 1 _ rfl) (by rw [← h2]; exact h.blk.cell 2 _ rfl) (by omega) (nf_le h)
theorem many_null (w : World) : Calls Tryd.prog 25 #[.pointer none] w fun e w' => e = .returned (.int .i64 0) ∧ w = w' := by
  have HV := Lib.hid valid_nil
  go_enter Tryd.func25, Tryd.ntmps25
  go_wp2_with (go_at_call 66; refine (HV.out _).mono ?_; rintro e w' ⟨rfl, rfl⟩)
  go_ret
  exact ⟨rfl, rfl⟩

theorem room_core (hp n : Nat) (w : World) (V : ∀ w', Below w.heap.size w w' → Calls Tryd.prog 66 #[ptr hp] w' fun e w'' => e = .returned (.bool true) ∧ w' = w'')
    (h1 : w.cell? ⟨hp, 3, none⟩ = some (.int .i64 (n : Int))) (hn : n ≤ 1048576) :
    Calls Tryd.prog 26 #[ptr hp] w fun e w' => e = .returned (.int .i64 (1048576 - (n : Int))) ∧ w = w' := by
  have HV := Lib.hid (V w (Below.refl _ _))
  clear V
  go_enter Tryd.func26, Tryd.ntmps26
  go_wp2_with (go_at_call 66; refine HV.out.mono ?_; rintro e w' ⟨rfl, rfl⟩)
  go_ret
  exact ⟨rfl, rfl⟩
theorem room_any {w : World} {base hp lim : Nat} {ob : Obs} {lab : Nat → Option Lab} {P : Parts} (h : HeapIs w base hp lim ob lab P) :
    Calls Tryd.prog 26 #[ptr hp] w fun e w' => e = .returned (.int .i64 (1048576 - (usedTo ob lim : Int))) ∧ w = w' :=
  room_core hp _ w (valid_any h) (h.blk.cell 3 _ rfl) h.used
theorem room_null (w : World) : Calls Tryd.prog 26 #[.pointer none] w fun e w' => e = .returned (.int .i64 0) ∧ w = w' := by
  have HV := Lib.hid valid_nil
  go_enter Tryd.func26, Tryd.ntmps26
  go_wp2_with (go_at_call 66; refine (HV.out _).mono ?_; rintro e w' ⟨rfl, rfl⟩)
  go_ret
  exact ⟨rfl, rfl⟩
theorem limit_core (hp n : Nat) (w : World) (V : ∀ w', Below w.heap.size w w' → Calls Tryd.prog 66 #[ptr hp] w' fun e w'' => e = .returned (.bool true) ∧ w' = w'')
    (h1 : w.cell? ⟨hp, 0, none⟩ = some (.int .i64 (n : Int))) :
    Calls Tryd.prog 28 #[ptr hp] w fun e w' => e = .returned (.int .i64 (n : Int)) ∧ w = w' := by
  have HV := Lib.hid (V w (Below.refl _ _))
  clear V
  go_enter Tryd.func28, Tryd.ntmps28
  go_wp2_with (go_at_call 66; refine HV.out.mono ?_; rintro e w' ⟨rfl, rfl⟩)
  go_ret
  exact ⟨rfl, rfl⟩
theorem limit_any {w : World} {base hp lim : Nat} {ob : Obs} {lab : Nat → Option Lab} {P : Parts} (h : HeapIs w base hp lim ob lab P) :
    Calls Tryd.prog 28 #[ptr hp] w fun e w' => e = .returned (.int .i64 (lim : Int)) ∧ w = w' :=
  limit_core hp _ w (valid_any h) (h.blk.cell 0 _ rfl)

theorem new_bad (n : Int) (h : n < 1 ∨ 65536 < n) (w : World) : Calls Tryd.prog 16 #[.int .i64 n] w fun e w' => e = .returned (.tuple #[.pointer none, .int .i64 3]) ∧ w = w' := by
  rcases h with h | h
  · have hd : decide (n < 1) = true := decide_eq_true h
    go_enter Tryd.func16, Tryd.ntmps16
    go_wp2
    go_ret2
    exact ⟨rfl, rfl⟩
  · have hd : decide (n < 1) = false := decide_eq_false (by omega)
    have hd2 : decide (65536 < n) = true := decide_eq_true h
    go_enter Tryd.func16, Tryd.ntmps16
    go_wp2
    go_ret2
    exact ⟨rfl, rfl⟩
theorem new_core (n : Nat) (h1 : 1 ≤ n) (h2 : n ≤ 65536) (w : World) :
    Calls Tryd.prog 16 #[.int .i64 (n : Int)] w fun e w' => e = .returned (.tuple #[ptr w.heap.size, .int .i64 0]) ∧ w' = w.alloc (.cells #[.int .i64 (n : Int), .slice none 0 0, .slice none 0 0, .int .i64 0] 106) := by
  have hd : decide ((n : Int) < 1) = false := decide_eq_false (by omega)
  have hd2 : decide ((65536 : Int) < n) = false := decide_eq_false (by omega)
  go_enter Tryd.func16, Tryd.ntmps16
  go_wp2
  go_ret2
  exact ⟨rfl, rfl⟩
def noObs : Obs := fun _ => none
theorem usedTo_none (n : Nat) : usedTo noObs n = 0 := by
  induction n with
  | zero => rfl
  | succ n ih => simp only [usedTo, ih]; rfl
/-- A new heap is empty. -/
theorem new_any (n : Nat) (h1 : 1 ≤ n) (h2 : n ≤ 65536) (w : World) :
    Calls Tryd.prog 16 #[.int .i64 (n : Int)] w fun e w' => e = .returned (.tuple #[ptr w.heap.size, .int .i64 0]) ∧ Below w.heap.size w w' ∧ HeapIs w' w.heap.size w.heap.size n noObs (fun b => if b = w.heap.size then some .hdr else none) ⟨0, .slice none 0 0, .slice none 0 0, [], 0, fun _ => 0⟩ := by
  refine (new_core n h1 h2 w).mono ?_
  rintro e w' ⟨rfl, rfl⟩
  refine ⟨rfl, (Below.refl _ _).alloc (Nat.le_refl _) _, ?_⟩
  exact {
    lim1 := h1
    lim2 := h2
    inb := fun b l hb => by
      split at hb
      · rename_i e; subst e; simp
      · cases hb
    hdr := by simp
    blk := by rw [usedTo_none]; exact Blk.new _ _ _
    m := by simp
    out := fun _ _ => rfl
    used := by rw [usedTo_none]; omega
    objs := ⟨by simp, .inl ⟨rfl, rfl⟩⟩
    olab := fun k hk => by cases hk
    each := fun i hi => by simp at hi
    small := fun _ => trivial
    free := ⟨by simp [fcells], .inl ⟨rfl, rfl⟩⟩
    flab := fun k hk => by cases hk
    ord := fun k _ hk => by simp at hk
    inj := fun a b ha => by simp at ha
    holes := fun x => by simp }
end Go.Proofs.YtcdlfgggmigcnaaDoor.Quick
