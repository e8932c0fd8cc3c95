/- The contract of the chapter's example, which each statement of layer 2 asks first. -/
import Derived.Test.YtcdlfgggmigcnaaDoorKit
import Derived.Outline
namespace Go.Proofs.YtcdlfgggmigcnaaDoor.Lives
set_option maxRecDepth 100000
open Go.RowKit
open Go.Proofs.YtcdlfgggmigcnaaDoor.Own Go.Proofs.YtcdlfgggmigcnaaDoor.Hp Go.Proofs.YtcdlfgggmigcnaaDoor.Rep Go.Proofs.YtcdlfgggmigcnaaDoor.Get Go.Proofs.YtcdlfgggmigcnaaDoor.Quick Go.Proofs.YtcdlfgggmigcnaaDoor.Add Go.Proofs.YtcdlfgggmigcnaaDoor.Make Go.Proofs.YtcdlfgggmigcnaaDoor.Kit Go.Proofs.YtcdlfgggmigcnaaDoor.Strs Go.Proofs.YtcdlfgggmigcnaaDoor.Clone

theorem after_below {w w' : World} {base hp lim : Nat} {ob : Obs} {lab lab' : Nat → Option Lab} {P : Parts} (h : HeapIs w base hp lim ob lab P) (hb : base ≤ w.heap.size) (ha : After w w' lab lab') : Below base w w' :=
  ha.keeps.below hb fun k hk => by
    cases hh : lab k with
    | none => exact absurd hh hk
    | some l => exact (h.inb k l hh).1
/-- A block of the caller's, behind a change of the heap. -/
theorem after_blk {w w' : World} {base hp lim b : Nat} {ob : Obs} {lab lab' : Nat → Option Lab} {P : Parts} {cs : Array Value} {t : TypeId} (_ : HeapIs w base hp lim ob lab P) (ha : After w w' lab lab') (hB : Blk w b cs t) (hl : lab b = none) : Blk w' b cs t :=
  hB.keeps ha.keeps (by unfold Of; rw [hl]; simp)
theorem after_lab {w w' : World} {b : Nat} {lab lab' : Nat → Option Lab} (ha : After w w' lab lab') (hb : b < w.heap.size) (hl : lab b = none) : lab' b = none := by
  cases hh : lab' b with
  | none => rfl
  | some l =>
    rcases ha.grow b (by unfold Of; rw [hh]; simp) with e | e
    · exact absurd hl e
    · omega
theorem nil_reads (w : World) (A : Option Addr) (c : Nat) : SlR w (.slice A 0 c) 0 [] := ⟨A, c, rfl, Nat.zero_le _, fun h => absurd h (by simp)⟩

def ob1 : Obs := put noObs 0 (some (.cons (0, 1) (1, 0)))
def ob2 : Obs := put ob1 1 (some (.text ⟨#[97]⟩ 1))
theorem add1 : addO noObs 2 (.cons (0, 1) (1, 0)) = ((2, 0), 0, ob1) := by kernel_rfl
theorem add2 : textO ob1 2 ⟨#[97]⟩ = ((3, 1), 0, ob2) := by kernel_rfl
theorem add3 : vecO ob2 2 [] = ((0, 0), 7, ob2) := by kernel_rfl

set_option maxRecDepth 100000 in
set_option maxHeartbeats 8000000 in
theorem lives_any (w : World) (hT : Tabs w) : Calls Tryd.prog 14 #[] w fun e w' => e = .returned (.bool true) ∧ Below w.heap.size w w' := by
  have HN := Lib.hid (new_any 2 (by omega) (by omega) w)
  have HT := Lib.hid hT
  clear hT
  go_enter Tryd.func14, Tryd.ntmps14
  go_wp2_with fail
  refine HN.out.mono ?_
  rintro e w1 ⟨rfl, hb1, hI1⟩
  have HI1 := Lib.hid hI1
  have HB1 := Lib.hid hb1
  clear hI1 hb1
  go_wp2_with fail
  refine (int_any 1 _).mono ?_
  rintro e w2 ⟨rfl, hb2⟩
  have HB2 := Lib.hid (HB1.out.trans (hb2.mono HB1.out.size))
  have HI2 := Lib.hid (HI1.out.below hb2)
  clear hb2
  go_wp2_with fail
  refine (nil_any _).mono ?_
  rintro e w3 ⟨rfl, hb3⟩
  have HB3 := Lib.hid (HB2.out.trans (hb3.mono HB2.out.size))
  have hI3 := HI2.out.below hb3
  have hc := cons_any hI3 HB3.out.size (0, 1) (1, 0)
  rw [add1] at hc
  have HC := Lib.hid hc
  have HI3 := Lib.hid hI3
  clear hb3 hI3 hc
  go_wp2_with fail
  refine HC.out.mono ?_
  rintro e w4 ⟨rfl, lab4, P4, hI4, hA4⟩
  have hB4 := HB3.out.trans (after_below HI3.out HB3.out.size hA4)
  have hI5 := hI4.below ((Below.refl _ _).alloc (Nat.le_refl _) (.cells #[.int .i64 2, .int .i64 0] 28))
  have hB5 := hB4.alloc hB4.size (.cells #[.int .i64 2, .int .i64 0] 28)
  have l4 := lab_none hI4 (Nat.le_refl _)
  have ht := text_any hI5 hB5.size ⟨#[97]⟩ (by decide) (HT.out.below hB5)
  rw [add2] at ht
  have HTx := Lib.hid ht
  have HI5 := Lib.hid hI5
  have HB5 := Lib.hid hB5
  have HL4 := Lib.hid l4
  clear hA4 hB4 hI4 ht hI5 hB5 l4
  go_wp2_with fail
  refine HTx.out.mono ?_
  rintro e w6 ⟨rfl, lab6, P6, hI6, hA6⟩
  have hB6 := HB5.out.trans (after_below HI5.out HB5.out.size hA6)
  have r6 := after_blk HI5.out hA6 (Blk.new w4 _ _) HL4.out
  have l6 := after_lab hA6 (by simp) HL4.out
  have l6n := lab_none hI6 (Nat.le_refl _)
  have hI7 := hI6.below ((Below.refl _ _).alloc (Nat.le_refl _) (.cells #[.int .i64 3, .int .i64 1] 28))
  have hB7 := hB6.alloc hB6.size (.cells #[.int .i64 3, .int .i64 1] 28)
  have hv := vec_any hI7 hB7.size (.slice none 0 0) [] (nil_reads _ _ _) (by simp)
  rw [add3] at hv
  have HV := Lib.hid hv
  have HI7 := Lib.hid hI7
  have HB7 := Lib.hid hB7
  have HR6 := Lib.hid (r6.alloc (.cells #[.int .i64 3, .int .i64 1] 28))
  have HL6 := Lib.hid (And.intro l6 l6n)
  clear hA6 hB6 hI6 r6 l6 l6n hv hI7 hB7
  go_wp2_with fail
  refine HV.out.mono ?_
  rintro e w8 ⟨rfl, lab8, P8, hI8, hA8⟩
  have hB8 := HB7.out.trans (after_below HI7.out HB7.out.size hA8)
  have r8 := (after_blk HI7.out hA8 HR6.out HL6.out.1).alloc (.cells #[.int .i64 0, .int .i64 0] 28)
  have s8 := (after_blk HI7.out hA8 (Blk.new w6 _ _) HL6.out.2).alloc (.cells #[.int .i64 0, .int .i64 0] 28)
  have hb9 := hB8.alloc hB8.size (.cells #[.int .i64 0, .int .i64 0] 28)
  have q1 := fun x : Grown (w8.alloc (.cells #[.int .i64 0, .int .i64 0] 28)) => (r8.below x.below).cell 0 _ rfl
  have q2 := fun x : Grown (w8.alloc (.cells #[.int .i64 0, .int .i64 0] 28)) => (r8.below x.below).cell 1 _ rfl
  have q3 := fun x : Grown (w8.alloc (.cells #[.int .i64 0, .int .i64 0] 28)) => (s8.below x.below).cell 0 _ rfl
  have q4 := fun x : Grown (w8.alloc (.cells #[.int .i64 0, .int .i64 0] 28)) => (s8.below x.below).cell 1 _ rfl
  have HB9 := Lib.hid hb9
  clear hA8 hB8 hI8 r8 s8 hb9
  go_wp2_with fail
  refine wp_region_grown (w8.alloc (.cells #[.int .i64 0, .int .i64 0] 28)) (Below.refl _ _) (by kernel_rfl) (by kernel_rfl) ?_
  repeat (go_big_quiet_step ((go_at_call 22; exact grown_call (fun w _ => word_any _ _ w))))
  refine wpQuiet_nil ?_
  rintro _ ⟨x, rfl⟩
  have HX := Lib.hid (HB9.out.trans (x.below.mono HB9.out.size))
  go_wp2_with fail
  go_ret
  exact ⟨rfl, HX.out⟩
end Go.Proofs.YtcdlfgggmigcnaaDoor.Lives
