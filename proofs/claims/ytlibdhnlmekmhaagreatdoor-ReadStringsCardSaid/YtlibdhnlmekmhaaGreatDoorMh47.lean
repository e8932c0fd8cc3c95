/- The contracts of VecOf, TextOf, CodeOf and Live. -/
import Derived.Test.YtlibdhnlmekmhaaGreatDoorMh46
namespace Go.Proofs.YtlibdhnlmekmhaaGreatDoor.Elem
set_option maxRecDepth 100000
open Go.RowKit
open Go.Proofs.YtlibdhnlmekmhaaGreatDoor.Own Go.Proofs.YtlibdhnlmekmhaaGreatDoor.Hp Go.Proofs.YtlibdhnlmekmhaaGreatDoor.Rep Go.Proofs.YtlibdhnlmekmhaaGreatDoor.Base Go.Proofs.YtlibdhnlmekmhaaGreatDoor.Get Go.Proofs.YtlibdhnlmekmhaaGreatDoor.Clone Go.Proofs.YtlibdhnlmekmhaaGreatDoor.Visit Go.Proofs.YtlibdhnlmekmhaaGreatDoor.CloneC

/-- What TextOf returns. -/
def textOfO (ob : Obs) (x : Wd) : ByteArray × Int := match findO ob x with | some (.text s _) => (s, 0) | _ => (⟨#[]⟩, 6)
set_option maxHeartbeats 1000000 in
theorem textOf_no (hp : Nat) (x : Wd) (w : World) (G : Reads w 77 #[ptr hp, wd x] (.tuple #[.pointer none, .int .i64 6])) :
    Calls Tryz.prog 32 #[ptr hp, wd x] w fun e w' => e = .returned (.tuple #[.string ⟨#[]⟩, .int .i64 6]) ∧ Below w.heap.size w w' := by
  have hb := box_below w x
  have HG := Lib.hid (G.out _ hb)
  clear G
  go_enter Tryz.func32, Tryz.ntmps32
  go_wp2_with fail
  refine HG.out.mono ?_
  rintro e w1 ⟨rfl, hb1⟩
  have HB := Lib.hid (hb.trans (hb1.mono hb.size))
  clear hb1 hb
  go_wp2_with fail
  go_ret2
  exact ⟨rfl, HB.out⟩
set_option maxHeartbeats 1000000 in
theorem textOf_yes (hp g : Nat) (s : ByteArray) (k : Int) (x : Wd) (w : World) (G : Reads w 77 #[ptr hp, wd x] (.tuple #[ptr g, .int .i64 0])) (hB : Blk w g #[.string s, .int .i64 k] 114) :
    Calls Tryz.prog 32 #[ptr hp, wd x] w fun e w' => e = .returned (.tuple #[.string s, .int .i64 0]) ∧ Below w.heap.size w w' := by
  have hb := box_below w x
  have HG := Lib.hid (G.out _ hb)
  have HBl := Lib.hid hB
  clear G hB
  go_enter Tryz.func32, Tryz.ntmps32
  go_wp2_with fail
  refine HG.out.mono ?_
  rintro e w1 ⟨rfl, hb1⟩
  have HB := Lib.hid (hb.trans (hb1.mono hb.size))
  have c0 := (HBl.out.below HB.out).cell 0 _ rfl
  clear hb1 hb
  go_wp2_with fail
  go_ret2
  exact ⟨rfl, HB.out⟩
theorem textOf_any {w : World} {base hp lim : Nat} {ob : Obs} {lab : Nat → Option Lab} {P : Parts} (h : HeapIs w base hp lim ob lab P) (x : Wd) :
    Reads w 32 #[ptr hp, wd x] (.tuple #[.string (textOfO ob x).1, .int .i64 (textOfO ob x).2]) := by
  intro w' hb
  have h' := h.below hb
  unfold textOfO
  rcases get_text_any h' x with ⟨⟨g, ho, _, hr⟩, hk⟩ | ⟨hr, hk⟩
  · match hf : findO ob x with
    | some (.text s k) =>
      rw [hf] at ho
      obtain ⟨g', hv, _, hB⟩ := ho
      simp at hv
      subst hv
      exact textOf_yes hp g s k x w' hr hB
    | none => rw [hf] at hk; simp at hk
    | some (.cons ..) => rw [hf] at hk; simp [Ob.kind] at hk
    | some (.vec ..) => rw [hf] at hk; simp [Ob.kind] at hk
    | some (.code ..) => rw [hf] at hk; simp [Ob.kind] at hk
  · match hf : findO ob x with
    | some (.text s k) => rw [hf] at hk; simp [Ob.kind] at hk
    | none => exact textOf_no hp x w' hr
    | some (.cons ..) => exact textOf_no hp x w' hr
    | some (.vec ..) => exact textOf_no hp x w' hr
    | some (.code ..) => exact textOf_no hp x w' hr

/-- What VecOf returns. -/
def vecOfO (ob : Obs) (x : Wd) : List Wd × Int := match findO ob x with | some (.vec l) => (l, 0) | _ => ([], 6)
/-- What CodeOf returns. -/
def codeOfO (ob : Obs) (x : Wd) : (Int × Int × Int × List Int × List Wd) × Int := match findO ob x with | some (.code p q z b l) => ((p, q, z, b, l), 0) | _ => ((0, 0, 0, [], []), 6)
abbrev cbox (p q z : Int) (rb rl : Value) : Obj := .cells #[.int .i64 p, .int .i64 q, .int .i64 z, rb, rl] 287
/-- Whether a kind's words are always live. -/
def always (k : Int) : Bool := k == 0 || k == 1 || k == 5 || k == 7 || k == 8 || k == 9 || k == 10
def liveO (ob : Obs) (x : Wd) : Bool := always x.1 || (findO ob x).isSome
set_option maxHeartbeats 2000000 in
theorem live_findNone (hp : Nat) (k n : Int) (w : World) (V : ∀ w', Below w.heap.size w w' → Calls Tryz.prog 69 #[ptr hp] w' fun e w'' => e = .returned (.bool true) ∧ w' = w'') (Fi : Reads w 133 #[ptr hp, wd (k, n)] .nilIface)
    (h : always k = false) :
    Calls Tryz.prog 139 #[ptr hp, wd (k, n)] w fun e w' => e = .returned (.bool false) ∧ Below w.heap.size w w' := by
  have hv := neq_nil
  have hb := box_below w (k, n)
  have HV := Lib.hid (V _ hb)
  have HF := Lib.hid (Fi.out _ hb)
  simp only [always, Bool.or_eq_false_iff] at h
  obtain ⟨⟨⟨⟨⟨⟨h0, h1⟩, h2⟩, h3⟩, h4⟩, h5⟩, h6⟩ := h
  clear V Fi
  go_enter Tryz.func139, Tryz.ntmps139
  go_wp2_with fail
  refine HV.out.mono ?_
  rintro e w1 ⟨rfl, rfl⟩
  go_wp2_with fail
  refine HF.out.mono ?_
  rintro e w2 ⟨rfl, hb2⟩
  have HB := Lib.hid (hb.trans (hb2.mono hb.size))
  clear hb hb2
  go_wp2_with fail
  go_ret
  exact ⟨rfl, HB.out⟩
set_option maxHeartbeats 2000000 in
theorem live_findSome (hp : Nat) (k n : Int) (w : World) (t : TypeId) (p : Value) (V : ∀ w', Below w.heap.size w w' → Calls Tryz.prog 69 #[ptr hp] w' fun e w'' => e = .returned (.bool true) ∧ w' = w'') (Fi : Reads w 133 #[ptr hp, wd (k, n)] (.iface t p))
    (h : always k = false) :
    Calls Tryz.prog 139 #[ptr hp, wd (k, n)] w fun e w' => e = .returned (.bool true) ∧ Below w.heap.size w w' := by
  have hv := neq_some t p
  have hb := box_below w (k, n)
  have HV := Lib.hid (V _ hb)
  have HF := Lib.hid (Fi.out _ hb)
  simp only [always, Bool.or_eq_false_iff] at h
  obtain ⟨⟨⟨⟨⟨⟨h0, h1⟩, h2⟩, h3⟩, h4⟩, h5⟩, h6⟩ := h
  clear V Fi
  go_enter Tryz.func139, Tryz.ntmps139
  go_wp2_with fail
  refine HV.out.mono ?_
  rintro e w1 ⟨rfl, rfl⟩
  go_wp2_with fail
  refine HF.out.mono ?_
  rintro e w2 ⟨rfl, hb2⟩
  have HB := Lib.hid (hb.trans (hb2.mono hb.size))
  clear hb hb2
  go_wp2_with fail
  go_ret
  exact ⟨rfl, HB.out⟩
set_option maxHeartbeats 2000000 in
theorem live_0 (hp : Nat) (n : Int) (w : World) (V : ∀ w', Below w.heap.size w w' → Calls Tryz.prog 69 #[ptr hp] w' fun e w'' => e = .returned (.bool true) ∧ w' = w'') :
    Calls Tryz.prog 139 #[ptr hp, wd (0, n)] w fun e w' => e = .returned (.bool true) ∧ Below w.heap.size w w' := by
  have hb := box_below w (0, n)
  have HV := Lib.hid (V _ hb)
  clear V
  go_enter Tryz.func139, Tryz.ntmps139
  go_wp2_with fail
  refine HV.out.mono ?_
  rintro e w1 ⟨rfl, rfl⟩
  go_wp2_with fail
  go_ret
  exact ⟨rfl, hb⟩
set_option maxHeartbeats 2000000 in
theorem live_1 (hp : Nat) (n : Int) (w : World) (V : ∀ w', Below w.heap.size w w' → Calls Tryz.prog 69 #[ptr hp] w' fun e w'' => e = .returned (.bool true) ∧ w' = w'') :
    Calls Tryz.prog 139 #[ptr hp, wd (1, n)] w fun e w' => e = .returned (.bool true) ∧ Below w.heap.size w w' := by
  have hb := box_below w (1, n)
  have HV := Lib.hid (V _ hb)
  clear V
  go_enter Tryz.func139, Tryz.ntmps139
  go_wp2_with fail
  refine HV.out.mono ?_
  rintro e w1 ⟨rfl, rfl⟩
  go_wp2_with fail
  go_ret
  exact ⟨rfl, hb⟩
set_option maxHeartbeats 2000000 in
theorem live_5 (hp : Nat) (n : Int) (w : World) (V : ∀ w', Below w.heap.size w w' → Calls Tryz.prog 69 #[ptr hp] w' fun e w'' => e = .returned (.bool true) ∧ w' = w'') :
    Calls Tryz.prog 139 #[ptr hp, wd (5, n)] w fun e w' => e = .returned (.bool true) ∧ Below w.heap.size w w' := by
  have hb := box_below w (5, n)
  have HV := Lib.hid (V _ hb)
  clear V
  go_enter Tryz.func139, Tryz.ntmps139
  go_wp2_with fail
  refine HV.out.mono ?_
  rintro e w1 ⟨rfl, rfl⟩
  go_wp2_with fail
  go_ret
  exact ⟨rfl, hb⟩
set_option maxHeartbeats 2000000 in
theorem live_7 (hp : Nat) (n : Int) (w : World) (V : ∀ w', Below w.heap.size w w' → Calls Tryz.prog 69 #[ptr hp] w' fun e w'' => e = .returned (.bool true) ∧ w' = w'') :
    Calls Tryz.prog 139 #[ptr hp, wd (7, n)] w fun e w' => e = .returned (.bool true) ∧ Below w.heap.size w w' := by
  have hb := box_below w (7, n)
  have HV := Lib.hid (V _ hb)
  clear V
  go_enter Tryz.func139, Tryz.ntmps139
  go_wp2_with fail
  refine HV.out.mono ?_
  rintro e w1 ⟨rfl, rfl⟩
  go_wp2_with fail
  go_ret
  exact ⟨rfl, hb⟩
set_option maxHeartbeats 2000000 in
theorem live_8 (hp : Nat) (n : Int) (w : World) (V : ∀ w', Below w.heap.size w w' → Calls Tryz.prog 69 #[ptr hp] w' fun e w'' => e = .returned (.bool true) ∧ w' = w'') :
    Calls Tryz.prog 139 #[ptr hp, wd (8, n)] w fun e w' => e = .returned (.bool true) ∧ Below w.heap.size w w' := by
  have hb := box_below w (8, n)
  have HV := Lib.hid (V _ hb)
  clear V
  go_enter Tryz.func139, Tryz.ntmps139
  go_wp2_with fail
  refine HV.out.mono ?_
  rintro e w1 ⟨rfl, rfl⟩
  go_wp2_with fail
  go_ret
  exact ⟨rfl, hb⟩
set_option maxHeartbeats 2000000 in
theorem live_9 (hp : Nat) (n : Int) (w : World) (V : ∀ w', Below w.heap.size w w' → Calls Tryz.prog 69 #[ptr hp] w' fun e w'' => e = .returned (.bool true) ∧ w' = w'') :
    Calls Tryz.prog 139 #[ptr hp, wd (9, n)] w fun e w' => e = .returned (.bool true) ∧ Below w.heap.size w w' := by
  have hb := box_below w (9, n)
  have HV := Lib.hid (V _ hb)
  clear V
  go_enter Tryz.func139, Tryz.ntmps139
  go_wp2_with fail
  refine HV.out.mono ?_
  rintro e w1 ⟨rfl, rfl⟩
  go_wp2_with fail
  go_ret
  exact ⟨rfl, hb⟩
set_option maxHeartbeats 2000000 in
theorem live_10 (hp : Nat) (n : Int) (w : World) (V : ∀ w', Below w.heap.size w w' → Calls Tryz.prog 69 #[ptr hp] w' fun e w'' => e = .returned (.bool true) ∧ w' = w'') :
    Calls Tryz.prog 139 #[ptr hp, wd (10, n)] w fun e w' => e = .returned (.bool true) ∧ Below w.heap.size w w' := by
  have hb := box_below w (10, n)
  have HV := Lib.hid (V _ hb)
  clear V
  go_enter Tryz.func139, Tryz.ntmps139
  go_wp2_with fail
  refine HV.out.mono ?_
  rintro e w1 ⟨rfl, rfl⟩
  go_wp2_with fail
  go_ret
  exact ⟨rfl, hb⟩
theorem live_any {w : World} {base hp lim : Nat} {ob : Obs} {lab : Nat → Option Lab} {P : Parts} (h : HeapIs w base hp lim ob lab P) (x : Wd) :
    Reads w 139 #[ptr hp, wd x] (.bool (liveO ob x)) := by
  intro w' hb
  have h' := h.below hb
  have hV := Get.valid_any h'
  obtain ⟨k, n⟩ := x
  unfold liveO
  cases ha : always k with
  | true =>
    rw [Bool.true_or]
    simp only [always, Bool.or_eq_true, beq_iff_eq] at ha
    rcases ha with (((((rfl | rfl) | rfl) | rfl) | rfl) | rfl) | rfl
    · exact live_0 hp n w' hV
    · exact live_1 hp n w' hV
    · exact live_5 hp n w' hV
    · exact live_7 hp n w' hV
    · exact live_8 hp n w' hV
    · exact live_9 hp n w' hV
    · exact live_10 hp n w' hV
  | false =>
    rw [Bool.false_or]
    obtain ⟨v, hv, _, hr⟩ := find_any h' (k, n)
    cases hf : findO ob (k, n) with
    | none =>
      rw [hf] at hv
      obtain rfl := hv
      exact live_findNone hp k n w' hV hr ha
    | some o =>
      rw [hf] at hv
      obtain ⟨t, p, rfl⟩ := Add.some_iface hv
      exact live_findSome hp k n w' t p hV hr ha
end Go.Proofs.YtlibdhnlmekmhaaGreatDoor.Elem
