/- The contracts of Car, Cdr, SetCar, SetCdr, isNil. -/
import Derived.Laws.StructEq
import Derived.Test.YtlibdhnlmekmhaaGreatDoorMh20
namespace Go.Proofs.YtlibdhnlmekmhaaGreatDoor.Car
open Go.RowKit
open Go.Proofs.YtlibdhnlmekmhaaGreatDoor.Own Go.Proofs.YtlibdhnlmekmhaaGreatDoor.Hp Go.Proofs.YtlibdhnlmekmhaaGreatDoor.HeapOrd Go.Proofs.YtlibdhnlmekmhaaGreatDoor.Rep Go.Proofs.YtlibdhnlmekmhaaGreatDoor.Base Go.Proofs.YtlibdhnlmekmhaaGreatDoor.Find Go.Proofs.YtlibdhnlmekmhaaGreatDoor.Get

theorem isNil_yes (w : World) :
    Calls Tryz.prog 70 #[wd (1, 0)] w fun e w' => e = .returned (.bool true) ∧ Below w.heap.size w w' := by
  go_enter Tryz.func70, Tryz.ntmps70
  go_wp2
  go_ret
  exact ⟨rfl, (Below.refl _ _).alloc (Nat.le_refl _) _⟩
theorem isNil_no (k n : Int) (w : World) (h : ¬ (k = 1 ∧ n = 0)) :
    Calls Tryz.prog 70 #[wd (k, n)] w fun e w' => e = .returned (.bool false) ∧ Below w.heap.size w w' := by
  by_cases h1 : k = 1
  · have h2 : (n == 0) = false := beq_eq_false_iff_ne.2 fun hn => h ⟨h1, hn⟩
    subst h1
    clear h
    go_enter Tryz.func70, Tryz.ntmps70
    go_wp2
    go_ret
    exact ⟨rfl, (Below.refl _ _).alloc (Nat.le_refl _) _⟩
  · have h2 : (k == 1) = false := beq_eq_false_iff_ne.2 h1
    clear h h1
    go_enter Tryz.func70, Tryz.ntmps70
    go_wp2
    go_ret
    exact ⟨rfl, (Below.refl _ _).alloc (Nat.le_refl _) _⟩
theorem isNil_null (x : Wd) (hx : x = (1, 0)) (w : World) : Calls Tryz.prog 70 #[wd x] w fun e w' => e = .returned (.bool true) ∧ Below w.heap.size w w' := by
  subst hx; exact isNil_yes w
theorem isNil_other (x : Wd) (hx : x ≠ (1, 0)) (w : World) : Calls Tryz.prog 70 #[wd x] w fun e w' => e = .returned (.bool false) ∧ Below w.heap.size w w' :=
  isNil_no x.1 x.2 w fun h => hx (Prod.ext h.1 h.2)

/-- What Car returns. -/
def carO (ob : Obs) (x : Wd) : Wd × Int := if x = (1, 0) then ((1, 0), 0) else match findO ob x with | some (.cons a _) => (a, 0) | _ => ((0, 0), 6)
set_option maxHeartbeats 1000000 in
theorem car_null (hp : Nat) (x : Wd) (hx : x = (1, 0)) (w : World) (V : ∀ w', Below w.heap.size w w' → Calls Tryz.prog 69 #[ptr hp] w' fun e w'' => e = .returned (.bool true) ∧ w' = w'') :
    Calls Tryz.prog 17 #[ptr hp, wd x] w fun e w' => e = .returned (.tuple #[wd (1, 0), .int .i64 0]) ∧ Below w.heap.size w w' := by
  subst hx
  have HV := Lib.hid V
  have HN := Lib.hid isNil_yes
  have hb := ((Below.refl w.heap.size w).alloc (Nat.le_refl _) (.cells #[.int .i64 1, .int .i64 0] 28)).alloc (by simp) (.cells #[.int .i64 0, .int .i64 0] 28)
  clear V
  go_enter Tryz.func17, Tryz.ntmps17
  go_wp2_with (fail)
  refine (HV.out _ hb).mono ?_
  rintro e w1 ⟨rfl, rfl⟩
  go_wp2_with (fail)
  refine (HN.out _).mono ?_
  rintro e w2 ⟨rfl, hb2⟩
  obtain ⟨n1, n2⟩ := two_new hb2
  obtain ⟨b0, b1, -, -⟩ := n1.two
  obtain ⟨c0, c1, d0, d1⟩ := n2.two
  clear n1 n2
  go_wp2_with (fail)
  refine bodyPost_ret (v := .tuple #[wd (1, 0), .int .i64 0]) (by simp [results, Tryz.results17, go_sem, c0, c1]) rfl ⟨rfl, ?_⟩
  exact ((hb.trans (hb2.mono (by simp; omega))).setCell (by simp) _).setCell (by simp) _
set_option maxHeartbeats 1000000 in
theorem car_no (hp : Nat) (x : Wd) (hx : x ≠ (1, 0)) (w : World) (V : ∀ w', Below w.heap.size w w' → Calls Tryz.prog 69 #[ptr hp] w' fun e w'' => e = .returned (.bool true) ∧ w' = w'')
    (G : Reads w 71 #[ptr hp, wd x] (.tuple #[.pointer none, .int .i64 6])) :
    Calls Tryz.prog 17 #[ptr hp, wd x] w fun e w' => e = .returned (.tuple #[wd (0, 0), .int .i64 6]) ∧ Below w.heap.size w w' := by
  have HV := Lib.hid V
  have HN := Lib.hid (isNil_other x hx)
  have HG := Lib.hid G
  have hb := ((Below.refl w.heap.size w).alloc (Nat.le_refl _) (.cells #[.int .i64 x.1, .int .i64 x.2] 28)).alloc (by simp) (.cells #[.int .i64 0, .int .i64 0] 28)
  clear V G hx
  go_enter Tryz.func17, Tryz.ntmps17
  go_wp2_with (fail)
  refine (HV.out _ hb).mono ?_
  rintro e w1 ⟨rfl, rfl⟩
  go_wp2_with (fail)
  refine (HN.out _).mono ?_
  rintro e w2 ⟨rfl, hb2⟩
  obtain ⟨n1, n2⟩ := two_new hb2
  obtain ⟨b0, b1, -, -⟩ := n1.two
  have hbb := hb.trans (hb2.mono (by simp; omega))
  clear hb
  go_wp2_with (fail)
  refine (HG.out _ hbb).mono ?_
  rintro e w3 ⟨rfl, hb3⟩
  obtain ⟨c0, c1, d0, d1⟩ := (n2.below hb3).two
  have hs3 := hb3.size
  have hs2 := n2.lt
  clear n1 n2 b0 b1
  go_wp2_with (fail)
  refine bodyPost_ret (v := .tuple #[wd (0, 0), .int .i64 6]) (by simp [results, Tryz.results17, go_sem, c0, c1]) rfl ⟨rfl, ?_⟩
  exact ((hbb.trans (hb3.mono hbb.size)).setCell (by simp) _).setCell (by simp) _
set_option maxHeartbeats 1000000 in
theorem car_yes (hp gc : Nat) (a d : Wd) (x : Wd) (hx : x ≠ (1, 0)) (w : World) (V : ∀ w', Below w.heap.size w w' → Calls Tryz.prog 69 #[ptr hp] w' fun e w'' => e = .returned (.bool true) ∧ w' = w'')
    (G : Reads w 71 #[ptr hp, wd x] (.tuple #[ptr gc, .int .i64 0])) (B : Blk w gc #[.int .i64 a.1, .int .i64 a.2, .int .i64 d.1, .int .i64 d.2] 97) :
    Calls Tryz.prog 17 #[ptr hp, wd x] w fun e w' => e = .returned (.tuple #[wd a, .int .i64 0]) ∧ Below w.heap.size w w' := by
  have HV := Lib.hid V
  have HN := Lib.hid (isNil_other x hx)
  have HG := Lib.hid G
  have hb := ((Below.refl w.heap.size w).alloc (Nat.le_refl _) (.cells #[.int .i64 x.1, .int .i64 x.2] 28)).alloc (by simp) (.cells #[.int .i64 0, .int .i64 0] 28)
  clear V G hx
  go_enter Tryz.func17, Tryz.ntmps17
  go_wp2_with (fail)
  refine (HV.out _ hb).mono ?_
  rintro e w1 ⟨rfl, rfl⟩
  go_wp2_with (fail)
  refine (HN.out _).mono ?_
  rintro e w2 ⟨rfl, hb2⟩
  obtain ⟨n1, n2⟩ := two_new hb2
  obtain ⟨b0, b1, -, -⟩ := n1.two
  have hbb := hb.trans (hb2.mono (by simp; omega))
  clear hb
  go_wp2_with (fail)
  refine (HG.out _ hbb).mono ?_
  rintro e w3 ⟨rfl, hb3⟩
  obtain ⟨c0, c1, d0, d1⟩ := (n2.below hb3).two
  have hbc := hbb.trans (hb3.mono hbb.size)
  obtain ⟨o0, o1, o2, o3⟩ := (B.below hbc).four
  clear n1 n2 b0 b1 hbb hb3
  go_wp2_with (fail)
  refine bodyPost_ret (v := .tuple #[wd a, .int .i64 0]) (by simp [results, Tryz.results17, go_sem, c0, c1]) rfl ⟨rfl, ?_⟩
  exact (hbc.setCell (by simp) _).setCell (by simp) _
theorem car_any {w : World} {base hp lim : Nat} {ob : Obs} {lab : Nat → Option Lab} {P : Parts} (h : HeapIs w base hp lim ob lab P) (x : Wd) :
    Reads w 17 #[ptr hp, wd x] (.tuple #[wd (carO ob x).1, .int .i64 (carO ob x).2]) := by
  intro w' hb
  have h' := h.below hb
  unfold carO
  by_cases hx : x = (1, 0)
  · rw [if_pos hx]
    exact car_null hp x hx w' (valid_any h')
  · rw [if_neg hx]
    rcases get_cons_any h' x with ⟨⟨g, ho, _, hr⟩, hk⟩ | ⟨hr, hk⟩
    · match hf : findO ob x with
      | none => rw [hf] at hk; simp at hk
      | some (.cons a d) =>
        rw [hf] at ho
        obtain ⟨g', hv, _, hblk⟩ := ho
        simp at hv
        subst hv
        exact car_yes hp g a d x hx w' (valid_any h') hr hblk
      | some (.text ..) => rw [hf] at hk; simp [Ob.kind] at hk
      | some (.vec ..) => rw [hf] at hk; simp [Ob.kind] at hk
      | some (.code ..) => rw [hf] at hk; simp [Ob.kind] at hk
    · match hf : findO ob x with
      | none => exact car_no hp x hx w' (valid_any h') hr
      | some (.cons a d) => rw [hf] at hk; simp [Ob.kind] at hk
      | some (.text ..) => exact car_no hp x hx w' (valid_any h') hr
      | some (.vec ..) => exact car_no hp x hx w' (valid_any h') hr
      | some (.code ..) => exact car_no hp x hx w' (valid_any h') hr
/-- What Cdr returns. -/
def cdrO (ob : Obs) (x : Wd) : Wd × Int := if x = (1, 0) then ((1, 0), 0) else match findO ob x with | some (.cons _ d) => (d, 0) | _ => ((0, 0), 6)
set_option maxHeartbeats 1000000 in
theorem cdr_null (hp : Nat) (x : Wd) (hx : x = (1, 0)) (w : World) (V : ∀ w', Below w.heap.size w w' → Calls Tryz.prog 69 #[ptr hp] w' fun e w'' => e = .returned (.bool true) ∧ w' = w'') :
    Calls Tryz.prog 63 #[ptr hp, wd x] w fun e w' => e = .returned (.tuple #[wd (1, 0), .int .i64 0]) ∧ Below w.heap.size w w' := by
  subst hx
  have HV := Lib.hid V
  have HN := Lib.hid isNil_yes
  have hb := ((Below.refl w.heap.size w).alloc (Nat.le_refl _) (.cells #[.int .i64 1, .int .i64 0] 28)).alloc (by simp) (.cells #[.int .i64 0, .int .i64 0] 28)
  clear V
  go_enter Tryz.func63, Tryz.ntmps63
  go_wp2_with (fail)
  refine (HV.out _ hb).mono ?_
  rintro e w1 ⟨rfl, rfl⟩
  go_wp2_with (fail)
  refine (HN.out _).mono ?_
  rintro e w2 ⟨rfl, hb2⟩
  obtain ⟨n1, n2⟩ := two_new hb2
  obtain ⟨b0, b1, -, -⟩ := n1.two
  obtain ⟨c0, c1, d0, d1⟩ := n2.two
  clear n1 n2
  go_wp2_with (fail)
  refine bodyPost_ret (v := .tuple #[wd (1, 0), .int .i64 0]) (by simp [results, Tryz.results63, go_sem, c0, c1]) rfl ⟨rfl, ?_⟩
  exact ((hb.trans (hb2.mono (by simp; omega))).setCell (by simp) _).setCell (by simp) _
set_option maxHeartbeats 1000000 in
theorem cdr_no (hp : Nat) (x : Wd) (hx : x ≠ (1, 0)) (w : World) (V : ∀ w', Below w.heap.size w w' → Calls Tryz.prog 69 #[ptr hp] w' fun e w'' => e = .returned (.bool true) ∧ w' = w'')
    (G : Reads w 71 #[ptr hp, wd x] (.tuple #[.pointer none, .int .i64 6])) :
    Calls Tryz.prog 63 #[ptr hp, wd x] w fun e w' => e = .returned (.tuple #[wd (0, 0), .int .i64 6]) ∧ Below w.heap.size w w' := by
  have HV := Lib.hid V
  have HN := Lib.hid (isNil_other x hx)
  have HG := Lib.hid G
  have hb := ((Below.refl w.heap.size w).alloc (Nat.le_refl _) (.cells #[.int .i64 x.1, .int .i64 x.2] 28)).alloc (by simp) (.cells #[.int .i64 0, .int .i64 0] 28)
  clear V G hx
  go_enter Tryz.func63, Tryz.ntmps63
  go_wp2_with (fail)
  refine (HV.out _ hb).mono ?_
  rintro e w1 ⟨rfl, rfl⟩
  go_wp2_with (fail)
  refine (HN.out _).mono ?_
  rintro e w2 ⟨rfl, hb2⟩
  obtain ⟨n1, n2⟩ := two_new hb2
  obtain ⟨b0, b1, -, -⟩ := n1.two
  have hbb := hb.trans (hb2.mono (by simp; omega))
  clear hb
  go_wp2_with (fail)
  refine (HG.out _ hbb).mono ?_
  rintro e w3 ⟨rfl, hb3⟩
  obtain ⟨c0, c1, d0, d1⟩ := (n2.below hb3).two
  have hs3 := hb3.size
  have hs2 := n2.lt
  clear n1 n2 b0 b1
  go_wp2_with (fail)
  refine bodyPost_ret (v := .tuple #[wd (0, 0), .int .i64 6]) (by simp [results, Tryz.results63, go_sem, c0, c1]) rfl ⟨rfl, ?_⟩
  exact ((hbb.trans (hb3.mono hbb.size)).setCell (by simp) _).setCell (by simp) _
set_option maxHeartbeats 1000000 in
theorem cdr_yes (hp gc : Nat) (a d : Wd) (x : Wd) (hx : x ≠ (1, 0)) (w : World) (V : ∀ w', Below w.heap.size w w' → Calls Tryz.prog 69 #[ptr hp] w' fun e w'' => e = .returned (.bool true) ∧ w' = w'')
    (G : Reads w 71 #[ptr hp, wd x] (.tuple #[ptr gc, .int .i64 0])) (B : Blk w gc #[.int .i64 a.1, .int .i64 a.2, .int .i64 d.1, .int .i64 d.2] 97) :
    Calls Tryz.prog 63 #[ptr hp, wd x] w fun e w' => e = .returned (.tuple #[wd d, .int .i64 0]) ∧ Below w.heap.size w w' := by
  have HV := Lib.hid V
  have HN := Lib.hid (isNil_other x hx)
  have HG := Lib.hid G
  have hb := ((Below.refl w.heap.size w).alloc (Nat.le_refl _) (.cells #[.int .i64 x.1, .int .i64 x.2] 28)).alloc (by simp) (.cells #[.int .i64 0, .int .i64 0] 28)
  clear V G hx
  go_enter Tryz.func63, Tryz.ntmps63
  go_wp2_with (fail)
  refine (HV.out _ hb).mono ?_
  rintro e w1 ⟨rfl, rfl⟩
  go_wp2_with (fail)
  refine (HN.out _).mono ?_
  rintro e w2 ⟨rfl, hb2⟩
  obtain ⟨n1, n2⟩ := two_new hb2
  obtain ⟨b0, b1, -, -⟩ := n1.two
  have hbb := hb.trans (hb2.mono (by simp; omega))
  clear hb
  go_wp2_with (fail)
  refine (HG.out _ hbb).mono ?_
  rintro e w3 ⟨rfl, hb3⟩
  obtain ⟨c0, c1, d0, d1⟩ := (n2.below hb3).two
  have hbc := hbb.trans (hb3.mono hbb.size)
  obtain ⟨o0, o1, o2, o3⟩ := (B.below hbc).four
  clear n1 n2 b0 b1 hbb hb3
  go_wp2_with (fail)
  refine bodyPost_ret (v := .tuple #[wd d, .int .i64 0]) (by simp [results, Tryz.results63, go_sem, c0, c1]) rfl ⟨rfl, ?_⟩
  exact (hbc.setCell (by simp) _).setCell (by simp) _
theorem cdr_any {w : World} {base hp lim : Nat} {ob : Obs} {lab : Nat → Option Lab} {P : Parts} (h : HeapIs w base hp lim ob lab P) (x : Wd) :
    Reads w 63 #[ptr hp, wd x] (.tuple #[wd (cdrO ob x).1, .int .i64 (cdrO ob x).2]) := by
  intro w' hb
  have h' := h.below hb
  unfold cdrO
  by_cases hx : x = (1, 0)
  · rw [if_pos hx]
    exact cdr_null hp x hx w' (valid_any h')
  · rw [if_neg hx]
    rcases get_cons_any h' x with ⟨⟨g, ho, _, hr⟩, hk⟩ | ⟨hr, hk⟩
    · match hf : findO ob x with
      | none => rw [hf] at hk; simp at hk
      | some (.cons a d) =>
        rw [hf] at ho
        obtain ⟨g', hv, _, hblk⟩ := ho
        simp at hv
        subst hv
        exact cdr_yes hp g a d x hx w' (valid_any h') hr hblk
      | some (.text ..) => rw [hf] at hk; simp [Ob.kind] at hk
      | some (.vec ..) => rw [hf] at hk; simp [Ob.kind] at hk
      | some (.code ..) => rw [hf] at hk; simp [Ob.kind] at hk
    · match hf : findO ob x with
      | none => exact cdr_no hp x hx w' (valid_any h') hr
      | some (.cons a d) => rw [hf] at hk; simp [Ob.kind] at hk
      | some (.text ..) => exact cdr_no hp x hx w' (valid_any h') hr
      | some (.vec ..) => exact cdr_no hp x hx w' (valid_any h') hr
      | some (.code ..) => exact cdr_no hp x hx w' (valid_any h') hr
end Go.Proofs.YtlibdhnlmekmhaaGreatDoor.Car
