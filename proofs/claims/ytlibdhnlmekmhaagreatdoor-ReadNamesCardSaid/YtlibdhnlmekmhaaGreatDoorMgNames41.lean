/- The contracts of Car, Cdr, SetCar, SetCdr, isNil. | The contract of clone: code with slices of its own. | The contract of Code. -/
import Derived.Laws.StructEq
import Derived.Deep.RegionWith
import Derived.Test.YtlibdhnlmekmhaaGreatDoorMgNames11
import Derived.Test.YtlibdhnlmekmhaaGreatDoorMgNames15
/- The contracts of Car, Cdr, SetCar, SetCdr, isNil. -/
section
namespace Go.Proofs.YtlibdhnlmekmhaaGreatDoor.Car
open Go.RowKit
open Go.Proofs.YtlibdhnlmekmhaaGreatDoor.Own Go.Proofs.YtlibdhnlmekmhaaGreatDoor.Hp Go.Proofs.YtlibdhnlmekmhaaGreatDoor.HeapOrd Go.Proofs.YtlibdhnlmekmhaaGreatDoor.Rep Go.Proofs.YtlibdhnlmekmhaaGreatDoor.Base Go.Proofs.YtlibdhnlmekmhaaGreatDoor.Find Go.Proofs.YtlibdhnlmekmhaaGreatDoor.Get

theorem isNil_yes (w : World) :
    Calls Tryz.prog 70 #[wd (1, 0)] w fun e w' => e = .returned (.bool true) ∧ Below w.heap.size w w' := by
  go_enter Tryz.func70, Tryz.ntmps70
  go_wp2
  go_ret
  exact ⟨rfl, (Below.refl _ _).alloc (Nat.le_refl _) _⟩
theorem isNil_no (k n : Int) (w : World) (h : ¬ (k = 1 ∧ n = 0)) :
    Calls Tryz.prog 70 #[wd (k, n)] w fun e w' => e = .returned (.bool false) ∧ Below w.heap.size w w' := by
  by_cases h1 : k = 1
  · have h2 : (n == 0) = false := beq_eq_false_iff_ne.2 fun hn => h ⟨h1, hn⟩
    subst h1
    clear h
    go_enter Tryz.func70, Tryz.ntmps70
    go_wp2
    go_ret
    exact ⟨rfl, (Below.refl _ _).alloc (Nat.le_refl _) _⟩
  · have h2 : (k == 1) = false := beq_eq_false_iff_ne.2 h1
    clear h h1
    go_enter Tryz.func70, Tryz.ntmps70
    go_wp2
    go_ret
    exact ⟨rfl, (Below.refl _ _).alloc (Nat.le_refl _) _⟩
theorem isNil_null (x : Wd) (hx : x = (1, 0)) (w : World) : Calls Tryz.prog 70 #[wd x] w fun e w' => e = .returned (.bool true) ∧ Below w.heap.size w w' := by
  subst hx; exact isNil_yes w
theorem isNil_other (x : Wd) (hx : x ≠ (1, 0)) (w : World) : Calls Tryz.prog 70 #[wd x] w fun e w' => e = .returned (.bool false) ∧ Below w.heap.size w w' :=
  isNil_no x.1 x.2 w fun h => hx (Prod.ext h.1 h.2)

/-- What Car returns. -/
def carO (ob : Obs) (x : Wd) : Wd × Int := if x = (1, 0) then ((1, 0), 0) else match findO ob x with | some (.cons a _) => (a, 0) | _ => ((0, 0), 6)
set_option maxHeartbeats 1000000 in
theorem car_null (hp : Nat) (x : Wd) (hx : x = (1, 0)) (w : World) (V : ∀ w', Below w.heap.size w w' → Calls Tryz.prog 69 #[ptr hp] w' fun e w'' => e = .returned (.bool true) ∧ w' = w'') :
    Calls Tryz.prog 17 #[ptr hp, wd x] w fun e w' => e = .returned (.tuple #[wd (1, 0), .int .i64 0]) ∧ Below w.heap.size w w' := by
  subst hx
  have HV := Lib.hid V
  have HN := Lib.hid isNil_yes
  have hb := ((Below.refl w.heap.size w).alloc (Nat.le_refl _) (.cells #[.int .i64 1, .int .i64 0] 28)).alloc (by simp) (.cells #[.int .i64 0, .int .i64 0] 28)
  clear V
  go_enter Tryz.func17, Tryz.ntmps17
  go_wp2_with (fail)
  refine (HV.out _ hb).mono ?_
  rintro e w1 ⟨rfl, rfl⟩
  go_wp2_with (fail)
  refine (HN.out _).mono ?_
  rintro e w2 ⟨rfl, hb2⟩
  obtain ⟨n1, n2⟩ := two_new hb2
  obtain ⟨b0, b1, -, -⟩ := n1.two
  obtain ⟨c0, c1, d0, d1⟩ := n2.two
  clear n1 n2
  go_wp2_with (fail)
  refine bodyPost_ret (v := .tuple #[wd (1, 0), .int .i64 0]) (by simp [results, Tryz.results17, go_sem, c0, c1]) rfl ⟨rfl, ?_⟩
  exact ((hb.trans (hb2.mono (by simp; omega))).setCell (by simp) _).setCell (by simp) _
set_option maxHeartbeats 1000000 in
theorem car_no (hp : Nat) (x : Wd) (hx : x ≠ (1, 0)) (w : World) (V : ∀ w', Below w.heap.size w w' → Calls Tryz.prog 69 #[ptr hp] w' fun e w'' => e = .returned (.bool true) ∧ w' = w'')
    (G : Reads w 71 #[ptr hp, wd x] (.tuple #[.pointer none, .int .i64 6])) :
    Calls Tryz.prog 17 #[ptr hp, wd x] w fun e w' => e = .returned (.tuple #[wd (0, 0), .int .i64 6]) ∧ Below w.heap.size w w' := by
  have HV := Lib.hid V
  have HN := Lib.hid (isNil_other x hx)
  have HG := Lib.hid G
  have hb := ((Below.refl w.heap.size w).alloc (Nat.le_refl _) (.cells #[.int .i64 x.1, .int .i64 x.2] 28)).alloc (by simp) (.cells #[.int .i64 0, .int .i64 0] 28)
  clear V G hx
  go_enter Tryz.func17, Tryz.ntmps17
  go_wp2_with (fail)
  refine (HV.out _ hb).mono ?_
  rintro e w1 ⟨rfl, rfl⟩
  go_wp2_with (fail)
  refine (HN.out _).mono ?_
  rintro e w2 ⟨rfl, hb2⟩
  obtain ⟨n1, n2⟩ := two_new hb2
  obtain ⟨b0, b1, -, -⟩ := n1.two
  have hbb := hb.trans (hb2.mono (by simp; omega))
  clear hb
  go_wp2_with (fail)
  refine (HG.out _ hbb).mono ?_
  rintro e w3 ⟨rfl, hb3⟩
  obtain ⟨c0, c1, d0, d1⟩ := (n2.below hb3).two
  have hs3 := hb3.size
  have hs2 := n2.lt
  clear n1 n2 b0 b1
  go_wp2_with (fail)
  refine bodyPost_ret (v := .tuple #[wd (0, 0), .int .i64 6]) (by simp [results, Tryz.results17, go_sem, c0, c1]) rfl ⟨rfl, ?_⟩
  exact ((hbb.trans (hb3.mono hbb.size)).setCell (by simp) _).setCell (by simp) _
set_option maxHeartbeats 1000000 in
theorem car_yes (hp gc : Nat) (a d : Wd) (x : Wd) (hx : x ≠ (1, 0)) (w : World) (V : ∀ w', Below w.heap.size w w' → Calls Tryz.prog 69 #[ptr hp] w' fun e w'' => e = .returned (.bool true) ∧ w' = w'')
    (G : Reads w 71 #[ptr hp, wd x] (.tuple #[ptr gc, .int .i64 0])) (B : Blk w gc #[.int .i64 a.1, .int .i64 a.2, .int .i64 d.1, .int .i64 d.2] 97) :
    Calls Tryz.prog 17 #[ptr hp, wd x] w fun e w' => e = .returned (.tuple #[wd a, .int .i64 0]) ∧ Below w.heap.size w w' := by
  have HV := Lib.hid V
  have HN := Lib.hid (isNil_other x hx)
  have HG := Lib.hid G
  have hb := ((Below.refl w.heap.size w).alloc (Nat.le_refl _) (.cells #[.int .i64 x.1, .int .i64 x.2] 28)).alloc (by simp) (.cells #[.int .i64 0, .int .i64 0] 28)
  clear V G hx
  go_enter Tryz.func17, Tryz.ntmps17
  go_wp2_with (fail)
  refine (HV.out _ hb).mono ?_
  rintro e w1 ⟨rfl, rfl⟩
  go_wp2_with (fail)
  refine (HN.out _).mono ?_
  rintro e w2 ⟨rfl, hb2⟩
  obtain ⟨n1, n2⟩ := two_new hb2
  obtain ⟨b0, b1, -, -⟩ := n1.two
  have hbb := hb.trans (hb2.mono (by simp; omega))
  clear hb
  go_wp2_with (fail)
  refine (HG.out _ hbb).mono ?_
  rintro e w3 ⟨rfl, hb3⟩
  obtain ⟨c0, c1, d0, d1⟩ := (n2.below hb3).two
  have hbc := hbb.trans (hb3.mono hbb.size)
  obtain ⟨o0, o1, o2, o3⟩ := (B.below hbc).four
  clear n1 n2 b0 b1 hbb hb3
  go_wp2_with (fail)
  refine bodyPost_ret (v := .tuple #[wd a, .int .i64 0]) (by simp [results, Tryz.results17, go_sem, c0, c1]) rfl ⟨rfl, ?_⟩
  exact (hbc.setCell (by simp) _).setCell (by simp) _
theorem car_any {w : World} {base hp lim : Nat} {ob : Obs} {lab : Nat → Option Lab} {P : Parts} (h : HeapIs w base hp lim ob lab P) (x : Wd) :
    Reads w 17 #[ptr hp, wd x] (.tuple #[wd (carO ob x).1, .int .i64 (carO ob x).2]) := by
  intro w' hb
  have h' := h.below hb
  unfold carO
  by_cases hx : x = (1, 0)
  · rw [if_pos hx]
    exact car_null hp x hx w' (valid_any h')
  · rw [if_neg hx]
    rcases get_cons_any h' x with ⟨⟨g, ho, _, hr⟩, hk⟩ | ⟨hr, hk⟩
    · match hf : findO ob x with
      | none => rw [hf] at hk; simp at hk
      | some (.cons a d) =>
        rw [hf] at ho
        obtain ⟨g', hv, _, hblk⟩ := ho
        simp at hv
        subst hv
        exact car_yes hp g a d x hx w' (valid_any h') hr hblk
      | some (.text ..) => rw [hf] at hk; simp [Ob.kind] at hk
      | some (.vec ..) => rw [hf] at hk; simp [Ob.kind] at hk
      | some (.code ..) => rw [hf] at hk; simp [Ob.kind] at hk
    · match hf : findO ob x with
      | none => exact car_no hp x hx w' (valid_any h') hr
      | some (.cons a d) => rw [hf] at hk; simp [Ob.kind] at hk
      | some (.text ..) => exact car_no hp x hx w' (valid_any h') hr
      | some (.vec ..) => exact car_no hp x hx w' (valid_any h') hr
      | some (.code ..) => exact car_no hp x hx w' (valid_any h') hr
/-- What Cdr returns. -/
def cdrO (ob : Obs) (x : Wd) : Wd × Int := if x = (1, 0) then ((1, 0), 0) else match findO ob x with | some (.cons _ d) => (d, 0) | _ => ((0, 0), 6)
set_option maxHeartbeats 1000000 in
theorem cdr_null (hp : Nat) (x : Wd) (hx : x = (1, 0)) (w : World) (V : ∀ w', Below w.heap.size w w' → Calls Tryz.prog 69 #[ptr hp] w' fun e w'' => e = .returned (.bool true) ∧ w' = w'') :
    Calls Tryz.prog 63 #[ptr hp, wd x] w fun e w' => e = .returned (.tuple #[wd (1, 0), .int .i64 0]) ∧ Below w.heap.size w w' := by
  subst hx
  have HV := Lib.hid V
  have HN := Lib.hid isNil_yes
  have hb := ((Below.refl w.heap.size w).alloc (Nat.le_refl _) (.cells #[.int .i64 1, .int .i64 0] 28)).alloc (by simp) (.cells #[.int .i64 0, .int .i64 0] 28)
  clear V
  go_enter Tryz.func63, Tryz.ntmps63
  go_wp2_with (fail)
  refine (HV.out _ hb).mono ?_
  rintro e w1 ⟨rfl, rfl⟩
  go_wp2_with (fail)
  refine (HN.out _).mono ?_
  rintro e w2 ⟨rfl, hb2⟩
  obtain ⟨n1, n2⟩ := two_new hb2
  obtain ⟨b0, b1, -, -⟩ := n1.two
  obtain ⟨c0, c1, d0, d1⟩ := n2.two
  clear n1 n2
  go_wp2_with (fail)
  refine bodyPost_ret (v := .tuple #[wd (1, 0), .int .i64 0]) (by simp [results, Tryz.results63, go_sem, c0, c1]) rfl ⟨rfl, ?_⟩
  exact ((hb.trans (hb2.mono (by simp; omega))).setCell (by simp) _).setCell (by simp) _
set_option maxHeartbeats 1000000 in
theorem cdr_no (hp : Nat) (x : Wd) (hx : x ≠ (1, 0)) (w : World) (V : ∀ w', Below w.heap.size w w' → Calls Tryz.prog 69 #[ptr hp] w' fun e w'' => e = .returned (.bool true) ∧ w' = w'')
    (G : Reads w 71 #[ptr hp, wd x] (.tuple #[.pointer none, .int .i64 6])) :
    Calls Tryz.prog 63 #[ptr hp, wd x] w fun e w' => e = .returned (.tuple #[wd (0, 0), .int .i64 6]) ∧ Below w.heap.size w w' := by
  have HV := Lib.hid V
  have HN := Lib.hid (isNil_other x hx)
  have HG := Lib.hid G
  have hb := ((Below.refl w.heap.size w).alloc (Nat.le_refl _) (.cells #[.int .i64 x.1, .int .i64 x.2] 28)).alloc (by simp) (.cells #[.int .i64 0, .int .i64 0] 28)
  clear V G hx
  go_enter Tryz.func63, Tryz.ntmps63
  go_wp2_with (fail)
  refine (HV.out _ hb).mono ?_
  rintro e w1 ⟨rfl, rfl⟩
  go_wp2_with (fail)
  refine (HN.out _).mono ?_
  rintro e w2 ⟨rfl, hb2⟩
  obtain ⟨n1, n2⟩ := two_new hb2
  obtain ⟨b0, b1, -, -⟩ := n1.two
  have hbb := hb.trans (hb2.mono (by simp; omega))
  clear hb
  go_wp2_with (fail)
  refine (HG.out _ hbb).mono ?_
  rintro e w3 ⟨rfl, hb3⟩
  obtain ⟨c0, c1, d0, d1⟩ := (n2.below hb3).two
  have hs3 := hb3.size
  have hs2 := n2.lt
  clear n1 n2 b0 b1
  go_wp2_with (fail)
  refine bodyPost_ret (v := .tuple #[wd (0, 0), .int .i64 6]) (by simp [results, Tryz.results63, go_sem, c0, c1]) rfl ⟨rfl, ?_⟩
  exact ((hbb.trans (hb3.mono hbb.size)).setCell (by simp) _).setCell (by simp) _
set_option maxHeartbeats 1000000 in
theorem cdr_yes (hp gc : Nat) (a d : Wd) (x : Wd) (hx : x ≠ (1, 0)) (w : World) (V : ∀ w', Below w.heap.size w w' → Calls Tryz.prog 69 #[ptr hp] w' fun e w'' => e = .returned (.bool true) ∧ w' = w'')
    (G : Reads w 71 #[ptr hp, wd x] (.tuple #[ptr gc, .int .i64 0])) (B : Blk w gc #[.int .i64 a.1, .int .i64 a.2, .int .i64 d.1, .int .i64 d.2] 97) :
    Calls Tryz.prog 63 #[ptr hp, wd x] w fun e w' => e = .returned (.tuple #[wd d, .int .i64 0]) ∧ Below w.heap.size w w' := by
  have HV := Lib.hid V
  have HN := Lib.hid (isNil_other x hx)
  have HG := Lib.hid G
  have hb := ((Below.refl w.heap.size w).alloc (Nat.le_refl _) (.cells #[.int .i64 x.1, .int .i64 x.2] 28)).alloc (by simp) (.cells #[.int .i64 0, .int .i64 0] 28)
  clear V G hx
  go_enter Tryz.func63, Tryz.ntmps63
  go_wp2_with (fail)
  refine (HV.out _ hb).mono ?_
  rintro e w1 ⟨rfl, rfl⟩
  go_wp2_with (fail)
  refine (HN.out _).mono ?_
  rintro e w2 ⟨rfl, hb2⟩
  obtain ⟨n1, n2⟩ := two_new hb2
  obtain ⟨b0, b1, -, -⟩ := n1.two
  have hbb := hb.trans (hb2.mono (by simp; omega))
  clear hb
  go_wp2_with (fail)
  refine (HG.out _ hbb).mono ?_
  rintro e w3 ⟨rfl, hb3⟩
  obtain ⟨c0, c1, d0, d1⟩ := (n2.below hb3).two
  have hbc := hbb.trans (hb3.mono hbb.size)
  obtain ⟨o0, o1, o2, o3⟩ := (B.below hbc).four
  clear n1 n2 b0 b1 hbb hb3
  go_wp2_with (fail)
  refine bodyPost_ret (v := .tuple #[wd d, .int .i64 0]) (by simp [results, Tryz.results63, go_sem, c0, c1]) rfl ⟨rfl, ?_⟩
  exact (hbc.setCell (by simp) _).setCell (by simp) _
theorem cdr_any {w : World} {base hp lim : Nat} {ob : Obs} {lab : Nat → Option Lab} {P : Parts} (h : HeapIs w base hp lim ob lab P) (x : Wd) :
    Reads w 63 #[ptr hp, wd x] (.tuple #[wd (cdrO ob x).1, .int .i64 (cdrO ob x).2]) := by
  intro w' hb
  have h' := h.below hb
  unfold cdrO
  by_cases hx : x = (1, 0)
  · rw [if_pos hx]
    exact cdr_null hp x hx w' (valid_any h')
  · rw [if_neg hx]
    rcases get_cons_any h' x with ⟨⟨g, ho, _, hr⟩, hk⟩ | ⟨hr, hk⟩
    · match hf : findO ob x with
      | none => rw [hf] at hk; simp at hk
      | some (.cons a d) =>
        rw [hf] at ho
        obtain ⟨g', hv, _, hblk⟩ := ho
        simp at hv
        subst hv
        exact cdr_yes hp g a d x hx w' (valid_any h') hr hblk
      | some (.text ..) => rw [hf] at hk; simp [Ob.kind] at hk
      | some (.vec ..) => rw [hf] at hk; simp [Ob.kind] at hk
      | some (.code ..) => rw [hf] at hk; simp [Ob.kind] at hk
    · match hf : findO ob x with
      | none => exact cdr_no hp x hx w' (valid_any h') hr
      | some (.cons a d) => rw [hf] at hk; simp [Ob.kind] at hk
      | some (.text ..) => exact cdr_no hp x hx w' (valid_any h') hr
      | some (.vec ..) => exact cdr_no hp x hx w' (valid_any h') hr
      | some (.code ..) => exact cdr_no hp x hx w' (valid_any h') hr
end Go.Proofs.YtlibdhnlmekmhaaGreatDoor.Car
end

/- The contract of clone: code with slices of its own. -/
section
namespace Go.Proofs.YtlibdhnlmekmhaaGreatDoor.CloneC
set_option maxRecDepth 100000
open Go.RowKit
open Go.Proofs.YtlibdhnlmekmhaaGreatDoor.Own Go.Proofs.YtlibdhnlmekmhaaGreatDoor.Hp Go.Proofs.YtlibdhnlmekmhaaGreatDoor.Rep Go.Proofs.YtlibdhnlmekmhaaGreatDoor.Clone Go.Proofs.YtlibdhnlmekmhaaGreatDoor.Make

/-- What holds between the calls: old blocks as they were, the two new blocks as they are. -/
def Inv (w : World) (c0 c1 : Array Value) (W : World) : Prop :=
  (W.os = w.os ∧ W.tape = w.tape ∧ W.output = w.output ∧ w.heap.size ≤ W.heap.size ∧ ∀ k, k < w.heap.size → W.heap[k]? = w.heap[k]?) ∧ W.heap[w.heap.size]? = some (.cells c0 287 (0, 0)) ∧ W.heap[w.heap.size + 1]? = some (.cells c1 287 (0, 0))
theorem Inv.below {w W : World} {c0 c1 : Array Value} (h : Inv w c0 c1 W) : Below w.heap.size w W := ⟨h.1.1, h.1.2.1, h.1.2.2.1, h.1.2.2.2.1, h.1.2.2.2.2⟩
theorem Inv.blk0 {w W : World} {c0 c1 : Array Value} (h : Inv w c0 c1 W) : Blk W w.heap.size c0 287 := h.2.1
theorem Inv.blk1 {w W : World} {c0 c1 : Array Value} (h : Inv w c0 c1 W) : Blk W (w.heap.size + 1) c1 287 := h.2.2
theorem Inv.next {w W W' : World} {c0 c1 : Array Value} (h : Inv w c0 c1 W) (hb : Below W.heap.size W W') : Inv w c0 c1 W' := by
  have h1 := h.below.trans (hb.mono h.below.size)
  exact ⟨⟨h1.os, h1.tape, h1.output, h1.size, h1.block⟩, h.blk0.below hb, h.blk1.below hb⟩
theorem Blk.five {w : World} {g : Nat} {a b c d e : Value} {t : TypeId} (h : Blk w g #[a, b, c, d, e] t) :
    (w.cell? ⟨g, 0, none⟩ = some a ∧ w.cell? ⟨g, 1, none⟩ = some b ∧ w.cell? ⟨g, 2, none⟩ = some c ∧ w.cell? ⟨g, 3, none⟩ = some d ∧ w.cell? ⟨g, 4, none⟩ = some e) ∧ (w.frozen? ⟨g, 0, none⟩ = false ∧ w.frozen? ⟨g, 1, none⟩ = false ∧ w.frozen? ⟨g, 2, none⟩ = false ∧ w.frozen? ⟨g, 3, none⟩ = false ∧ w.frozen? ⟨g, 4, none⟩ = false) :=
  ⟨⟨h.cell 0 _ rfl, h.cell 1 _ rfl, h.cell 2 _ rfl, h.cell 3 _ rfl, h.cell 4 _ rfl⟩, h.free 0, h.free 1, h.free 2, h.free 3, h.free 4⟩

end Go.Proofs.YtlibdhnlmekmhaaGreatDoor.CloneC
end

/- The contract of Code. -/
section
namespace Go.Proofs.YtlibdhnlmekmhaaGreatDoor.Make
set_option maxRecDepth 100000
open Go.RowKit
open Go.Proofs.YtlibdhnlmekmhaaGreatDoor.Own Go.Proofs.YtlibdhnlmekmhaaGreatDoor.Hp Go.Proofs.YtlibdhnlmekmhaaGreatDoor.HeapOrd Go.Proofs.YtlibdhnlmekmhaaGreatDoor.Rep Go.Proofs.YtlibdhnlmekmhaaGreatDoor.Base Go.Proofs.YtlibdhnlmekmhaaGreatDoor.Get Go.Proofs.YtlibdhnlmekmhaaGreatDoor.Size Go.Proofs.YtlibdhnlmekmhaaGreatDoor.Add Go.Proofs.YtlibdhnlmekmhaaGreatDoor.Clone Go.Proofs.YtlibdhnlmekmhaaGreatDoor.CloneC

/-- What Code returns. -/
def codeO (ob : Obs) (lim : Nat) (p q z : Int) (b : List Int) (l : List Wd) : Wd × Int × Obs := if 65536 < b.length ∨ 65536 < l.length then ((0, 0), 4, ob) else addO ob lim (.code p q z b l)
/-- Code by value. -/
abbrev codeV (p q z : Int) (bv lv : Value) : Value := .agg #[.int .i64 p, .int .i64 q, .int .i64 z, bv, lv]

/-- Labels for the blocks of a code: its own, the row of its words, that of its bytes. -/
def lab3 (g n : Nat) (rb rl : Value) (b : Nat) : Option Lab := if b = g then some (.obj n) else if rl.ownBlock = some b then some (.row n) else if rb.ownBlock = some b then some (.bytes n) else none
theorem newLab3 {w W2 : World} {base hp lim n m m2 : Nat} {e e2 : TypeId} {size size2 : Nat} {ob : Obs} {lab : Nat → Option Lab} {P : Parts} {rb rl : Value} {xs ys : List Value} {o : Obj} (h : HeapIs w base hp lim ob lab P) (hb : base ≤ w.heap.size) (hb2 : Below w.heap.size w W2)
    (ho : W2.ownsRow w.heap.size e size rb m xs) (ho2 : W2.ownsRow w.heap.size e2 size2 rl m2 ys) (hd : ∀ b, rb.ownBlock = some b → rl.ownBlock ≠ some b) :
    NewLab (W2.alloc o) base n (lab3 W2.heap.size n rb rl) lab ∧ (∀ b, lab3 W2.heap.size n rb rl b ≠ none → w.heap.size ≤ b) ∧ (∀ b, rb.ownBlock = some b → lab3 W2.heap.size n rb rl b = some (.bytes n)) ∧ (∀ b, rl.ownBlock = some b → lab3 W2.heap.size n rb rl b = some (.row n)) ∧ lab3 W2.heap.size n rb rl W2.heap.size = some (.obj n) := by
  have hlt : ∀ b, rb.ownBlock = some b → w.heap.size ≤ b ∧ b < W2.heap.size := ho.lt
  have hlt2 : ∀ b, rl.ownBlock = some b → w.heap.size ≤ b ∧ b < W2.heap.size := ho2.lt
  refine ⟨⟨fun b l hl => ?_, fun b l hl => ?_⟩, fun b hl => ?_, fun b hb' => ?_, fun b hb' => ?_, by simp [lab3]⟩
  · unfold lab3 at hl
    split at hl
    · rename_i e
      subst e
      exact ⟨lab_none h hb2.size, Nat.le_trans hb hb2.size, by simp⟩
    · split at hl
      · rename_i e
        have := hlt2 b e
        exact ⟨lab_none h this.1, by omega, by simp; omega⟩
      · split at hl
        · rename_i e
          have := hlt b e
          exact ⟨lab_none h this.1, by omega, by simp; omega⟩
        · cases hl
  · unfold lab3 at hl
    split at hl
    · cases hl; rfl
    · split at hl
      · cases hl; rfl
      · split at hl
        · cases hl; rfl
        · cases hl
  · unfold lab3 at hl
    split at hl
    · rename_i e; subst e; exact hb2.size
    · split at hl
      · rename_i e; exact (hlt2 b e).1
      · split at hl
        · rename_i e; exact (hlt b e).1
        · exact absurd rfl hl
  · unfold lab3
    rw [if_neg (by have := hlt b hb'; omega), if_neg (hd b hb'), if_pos hb']
  · unfold lab3
    rw [if_neg (by have := hlt2 b hb'; omega), if_pos hb']

end Go.Proofs.YtlibdhnlmekmhaaGreatDoor.Make
end
