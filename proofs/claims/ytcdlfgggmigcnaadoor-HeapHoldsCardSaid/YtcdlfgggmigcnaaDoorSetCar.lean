/- The contracts of SetCar and SetCdr. -/
import Derived.Test.YtcdlfgggmigcnaaDoorGet
import Derived.Test.YtcdlfgggmigcnaaDoorRep2
namespace Go.Proofs.YtcdlfgggmigcnaaDoor.SetCar
set_option maxRecDepth 100000
open Go.RowKit
open Go.Proofs.YtcdlfgggmigcnaaDoor.Own Go.Proofs.YtcdlfgggmigcnaaDoor.Hp Go.Proofs.YtcdlfgggmigcnaaDoor.HeapOrd Go.Proofs.YtcdlfgggmigcnaaDoor.Rep Go.Proofs.YtcdlfgggmigcnaaDoor.Base Go.Proofs.YtcdlfgggmigcnaaDoor.Find Go.Proofs.YtcdlfgggmigcnaaDoor.Get

/-- What SetCar returns, and the objects behind it. -/
def setCarO (ob : Obs) (x y : Wd) : Int × Obs := match findO ob x with | some (.cons _ d) => (0, put ob x.2.toNat (some (.cons y d))) | _ => (6, ob)
set_option maxHeartbeats 1000000 in
theorem setCar_null (x y : Wd) (w : World) :
    Calls Tryd.prog 29 #[.pointer none, wd x, wd y] w fun e w' => e = .returned (.int .i64 1) ∧ Below w.heap.size w w' := by
  have HG := Lib.hid (get_cons_null x)
  have hb := ((Below.refl w.heap.size w).alloc (Nat.le_refl _) (.cells #[.int .i64 x.1, .int .i64 x.2] 28)).alloc (by simp) (.cells #[.int .i64 y.1, .int .i64 y.2] 28)
  go_enter Tryd.func29, Tryd.ntmps29
  go_wp2_with (fail)
  refine (HG.out _).mono ?_
  rintro e w1 ⟨rfl, hb2⟩
  go_wp2_with (fail)
  go_ret
  exact ⟨rfl, hb.trans (hb2.mono (by simp; omega))⟩
set_option maxHeartbeats 1000000 in
theorem setCar_no (hp : Nat) (x y : Wd) (w : World) (G : Reads w 75 #[ptr hp, wd x] (.tuple #[.pointer none, .int .i64 6])) :
    Calls Tryd.prog 29 #[ptr hp, wd x, wd y] w fun e w' => e = .returned (.int .i64 6) ∧ Below w.heap.size w w' := by
  have HG := Lib.hid G
  have hb := ((Below.refl w.heap.size w).alloc (Nat.le_refl _) (.cells #[.int .i64 x.1, .int .i64 x.2] 28)).alloc (by simp) (.cells #[.int .i64 y.1, .int .i64 y.2] 28)
  clear G
  go_enter Tryd.func29, Tryd.ntmps29
  go_wp2_with (fail)
  refine (HG.out _ hb).mono ?_
  rintro e w1 ⟨rfl, hb2⟩
  go_wp2_with (fail)
  go_ret
  exact ⟨rfl, hb.trans (hb2.mono (by simp; omega))⟩
set_option maxHeartbeats 1000000 in
theorem setCar_yes (hp gc : Nat) (a d : Wd) (x y : Wd) (w : World) (G : Reads w 75 #[ptr hp, wd x] (.tuple #[ptr gc, .int .i64 0])) (B : Blk w gc #[.int .i64 a.1, .int .i64 a.2, .int .i64 d.1, .int .i64 d.2] 110) :
    Calls Tryd.prog 29 #[ptr hp, wd x, wd y] w fun e w' => e = .returned (.int .i64 0) ∧ Blk w' gc #[.int .i64 y.1, .int .i64 y.2, .int .i64 d.1, .int .i64 d.2] 110 ∧ Keeps (fun b => b = gc) w w' := by
  have HG := Lib.hid G
  have hb := ((Below.refl w.heap.size w).alloc (Nat.le_refl _) (.cells #[.int .i64 x.1, .int .i64 x.2] 28)).alloc (by simp) (.cells #[.int .i64 y.1, .int .i64 y.2] 28)
  clear G
  go_enter Tryd.func29, Tryd.ntmps29
  go_wp2_with (fail)
  refine (HG.out _ hb).mono ?_
  rintro e w1 ⟨rfl, hb2⟩
  obtain ⟨n1, n2⟩ := two_new hb2
  obtain ⟨b0, b1, -, -⟩ := n2.two
  have hbb := hb.trans (hb2.mono (by simp; omega))
  have B1 := B.below hbb
  have hf := B1.free
  obtain ⟨o0, o1, o2, o3⟩ := B1.four
  clear n1 n2 hb hb2
  go_wp2_with (fail)
  go_ret
  exact ⟨rfl, (B1.set 0 _).set 1 _, ((Keeps.of_below (F := fun b => b = gc) hbb).setCell ⟨gc, 0, none⟩ _ fun _ => rfl).setCell ⟨gc, 1, none⟩ _ fun _ => rfl⟩
theorem setCar_any {w : World} {base hp lim : Nat} {ob : Obs} {lab : Nat → Option Lab} {P : Parts} (h : HeapIs w base hp lim ob lab P) (x y : Wd) :
    Calls Tryd.prog 29 #[ptr hp, wd x, wd y] w fun e w' => e = .returned (.int .i64 (setCarO ob x y).1) ∧ HeapIs w' base hp lim (setCarO ob x y).2 lab P ∧ Keeps (Of lab) w w' := by
  have fin : ∀ e w', e = Ending.returned (.int .i64 6) ∧ Below w.heap.size w w' → e = .returned (.int .i64 6) ∧ HeapIs w' base hp lim ob lab P ∧ Keeps (Of lab) w w' :=
    fun e w' ⟨he, hb⟩ => ⟨he, h.below hb, .of_below hb⟩
  unfold setCarO
  rcases get_cons_any h x with ⟨⟨g, ho, hvs, hr⟩, hk⟩ | ⟨hr, hk⟩
  · match hf : findO ob x with
    | none => rw [hf] at hk; simp at hk
    | some (.cons a d) =>
      rw [hf] at ho
      obtain ⟨g', hv, hl, hblk⟩ := ho
      simp at hv
      subst hv
      refine (setCar_yes hp g a d x y w hr hblk).mono ?_
      rintro e w' ⟨he, hB, hkeep⟩
      have hkk : Keeps (OfObj lab x.2.toNat) w w' := hkeep.mono fun k _ e => by subst e; exact ⟨_, hl, rfl⟩
      obtain ⟨_, h1, _⟩ := findO_some hf
      exact ⟨he, h.setObj hkk h1 rfl hvs ⟨g, rfl, hl, hB⟩ trivial, hkk.mono fun k _ e => e.of⟩
    | some (.text ..) => rw [hf] at hk; simp [Ob.kind] at hk
    | some (.vec ..) => rw [hf] at hk; simp [Ob.kind] at hk
    | some (.code ..) => rw [hf] at hk; simp [Ob.kind] at hk
  · match hf : findO ob x with
    | none => exact (setCar_no hp x y w hr).mono fin
    | some (.cons a d) => rw [hf] at hk; simp [Ob.kind] at hk
    | some (.text ..) => exact (setCar_no hp x y w hr).mono fin
    | some (.vec ..) => exact (setCar_no hp x y w hr).mono fin
    | some (.code ..) => exact (setCar_no hp x y w hr).mono fin
/-- What SetCdr returns, and the objects behind it. -/
def setCdrO (ob : Obs) (x y : Wd) : Int × Obs := match findO ob x with | some (.cons a _) => (0, put ob x.2.toNat (some (.cons a y))) | _ => (6, ob)
set_option maxHeartbeats 1000000 in
theorem setCdr_null (x y : Wd) (w : World) :
    Calls Tryd.prog 32 #[.pointer none, wd x, wd y] w fun e w' => e = .returned (.int .i64 1) ∧ Below w.heap.size w w' := by
  have HG := Lib.hid (get_cons_null x)
  have hb := ((Below.refl w.heap.size w).alloc (Nat.le_refl _) (.cells #[.int .i64 x.1, .int .i64 x.2] 28)).alloc (by simp) (.cells #[.int .i64 y.1, .int .i64 y.2] 28)
  go_enter Tryd.func32, Tryd.ntmps32
  go_wp2_with (fail)
  refine (HG.out _).mono ?_
  rintro e w1 ⟨rfl, hb2⟩
  go_wp2_with (fail)
  go_ret
  exact ⟨rfl, hb.trans (hb2.mono (by simp; omega))⟩
set_option maxHeartbeats 1000000 in
theorem setCdr_no (hp : Nat) (x y : Wd) (w : World) (G : Reads w 75 #[ptr hp, wd x] (.tuple #[.pointer none, .int .i64 6])) :
    Calls Tryd.prog 32 #[ptr hp, wd x, wd y] w fun e w' => e = .returned (.int .i64 6) ∧ Below w.heap.size w w' := by
  have HG := Lib.hid G
  have hb := ((Below.refl w.heap.size w).alloc (Nat.le_refl _) (.cells #[.int .i64 x.1, .int .i64 x.2] 28)).alloc (by simp) (.cells #[.int .i64 y.1, .int .i64 y.2] 28)
  clear G
  go_enter Tryd.func32, Tryd.ntmps32
  go_wp2_with (fail)
  refine (HG.out _ hb).mono ?_
  rintro e w1 ⟨rfl, hb2⟩
  go_wp2_with (fail)
  go_ret
  exact ⟨rfl, hb.trans (hb2.mono (by simp; omega))⟩
set_option maxHeartbeats 1000000 in
theorem setCdr_yes (hp gc : Nat) (a d : Wd) (x y : Wd) (w : World) (G : Reads w 75 #[ptr hp, wd x] (.tuple #[ptr gc, .int .i64 0])) (B : Blk w gc #[.int .i64 a.1, .int .i64 a.2, .int .i64 d.1, .int .i64 d.2] 110) :
    Calls Tryd.prog 32 #[ptr hp, wd x, wd y] w fun e w' => e = .returned (.int .i64 0) ∧ Blk w' gc #[.int .i64 a.1, .int .i64 a.2, .int .i64 y.1, .int .i64 y.2] 110 ∧ Keeps (fun b => b = gc) w w' := by
  have HG := Lib.hid G
  have hb := ((Below.refl w.heap.size w).alloc (Nat.le_refl _) (.cells #[.int .i64 x.1, .int .i64 x.2] 28)).alloc (by simp) (.cells #[.int .i64 y.1, .int .i64 y.2] 28)
  clear G
  go_enter Tryd.func32, Tryd.ntmps32
  go_wp2_with (fail)
  refine (HG.out _ hb).mono ?_
  rintro e w1 ⟨rfl, hb2⟩
  obtain ⟨n1, n2⟩ := two_new hb2
  obtain ⟨b0, b1, -, -⟩ := n2.two
  have hbb := hb.trans (hb2.mono (by simp; omega))
  have B1 := B.below hbb
  have hf := B1.free
  obtain ⟨o0, o1, o2, o3⟩ := B1.four
  clear n1 n2 hb hb2
  go_wp2_with (fail)
  go_ret
  exact ⟨rfl, (B1.set 2 _).set 3 _, ((Keeps.of_below (F := fun b => b = gc) hbb).setCell ⟨gc, 2, none⟩ _ fun _ => rfl).setCell ⟨gc, 3, none⟩ _ fun _ => rfl⟩
theorem setCdr_any {w : World} {base hp lim : Nat} {ob : Obs} {lab : Nat → Option Lab} {P : Parts} (h : HeapIs w base hp lim ob lab P) (x y : Wd) :
    Calls Tryd.prog 32 #[ptr hp, wd x, wd y] w fun e w' => e = .returned (.int .i64 (setCdrO ob x y).1) ∧ HeapIs w' base hp lim (setCdrO ob x y).2 lab P ∧ Keeps (Of lab) w w' := by
  have fin : ∀ e w', e = Ending.returned (.int .i64 6) ∧ Below w.heap.size w w' → e = .returned (.int .i64 6) ∧ HeapIs w' base hp lim ob lab P ∧ Keeps (Of lab) w w' :=
    fun e w' ⟨he, hb⟩ => ⟨he, h.below hb, .of_below hb⟩
  unfold setCdrO
  rcases get_cons_any h x with ⟨⟨g, ho, hvs, hr⟩, hk⟩ | ⟨hr, hk⟩
  · match hf : findO ob x with
    | none => rw [hf] at hk; simp at hk
    | some (.cons a d) =>
      rw [hf] at ho
      obtain ⟨g', hv, hl, hblk⟩ := ho
      simp at hv
      subst hv
      refine (setCdr_yes hp g a d x y w hr hblk).mono ?_
      rintro e w' ⟨he, hB, hkeep⟩
      have hkk : Keeps (OfObj lab x.2.toNat) w w' := hkeep.mono fun k _ e => by subst e; exact ⟨_, hl, rfl⟩
      obtain ⟨_, h1, _⟩ := findO_some hf
      exact ⟨he, h.setObj hkk h1 rfl hvs ⟨g, rfl, hl, hB⟩ trivial, hkk.mono fun k _ e => e.of⟩
    | some (.text ..) => rw [hf] at hk; simp [Ob.kind] at hk
    | some (.vec ..) => rw [hf] at hk; simp [Ob.kind] at hk
    | some (.code ..) => rw [hf] at hk; simp [Ob.kind] at hk
  · match hf : findO ob x with
    | none => exact (setCdr_no hp x y w hr).mono fin
    | some (.cons a d) => rw [hf] at hk; simp [Ob.kind] at hk
    | some (.text ..) => exact (setCdr_no hp x y w hr).mono fin
    | some (.vec ..) => exact (setCdr_no hp x y w hr).mono fin
    | some (.code ..) => exact (setCdr_no hp x y w hr).mono fin
end Go.Proofs.YtcdlfgggmigcnaaDoor.SetCar
