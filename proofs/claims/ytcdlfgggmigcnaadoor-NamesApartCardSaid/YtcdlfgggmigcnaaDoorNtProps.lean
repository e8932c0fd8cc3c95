/- The contracts of SetProp, Prop and Props; copyistkit.Same at properties. -/
import Derived.Test.YtcdlfgggmigcnaaDoorNtPut2
namespace Go.Proofs.YtcdlfgggmigcnaaDoor.Nt
set_option maxRecDepth 100000
open Go.RowKit
open Go.Proofs.YtcdlfgggmigcnaaDoor.Own Go.Proofs.YtcdlfgggmigcnaaDoor.Clone

/-- A key's value put among properties. -/
def putL (l : List (Int × Wd)) (key : Int) (x : Wd) : List (Int × Wd) := if hasKey l key = true then l.set (placeN l key) (key, x) else l.take (placeN l key) ++ (key, x) :: l.drop (placeN l key)
/-- What SetProp returns, and the table behind it. -/
def setPropO (t : Tb) (i key : Int) (x : Wd) : Int × Tb :=
  match symO t i, symO t key with
  | some s, some _ => (0, ⟨t.syms.set i.toNat ⟨s.name, s.fn, s.has, putL s.props key x⟩, t.find⟩)
  | _, _ => (8, t)
/-- Where a new key comes behind the others. -/
def AtEnd (l : List (Int × Wd)) (key : Int) : Prop := hasKey l key = true ∨ (placeN l key = l.length ∧ l.length < 16384)

theorem hasKey_at {l : List (Int × Wd)} {key : Int} (h : hasKey l key = true) : ∃ y, l[placeN l key]? = some (key, y) := by
  unfold hasKey at h
  split at h
  · rename_i p hp
    obtain ⟨a, y⟩ := p
    simp at h
    subst h
    exact ⟨y, hp⟩
  · cases h
theorem putL_end {l : List (Int × Wd)} {key : Int} (h : placeN l key = l.length) (x : Wd) : putL l key x = l ++ [(key, x)] := by
  unfold putL
  rw [hasKey_end h, h, if_neg (by simp), List.take_of_length_le (Nat.le_refl _), List.drop_of_length_le (Nat.le_refl _)]

/-- put, where a new key comes behind the others. -/
theorem put_any {w : World} {base tp g cap k : Nat} {t : Tb} {lab : Nat → Option TLab} {P : TParts} {s : Sy} (h : TabIs w base tp t lab P) (hb : base ≤ w.heap.size) (hv : P.sv = .slice (some ⟨g, 0, none⟩) t.syms.length cap) (hs : t.syms[k]? = some s) (key : Int) (x : Wd) (ha : AtEnd s.props key) :
    Calls Tryd.prog 103 #[.pointer (some ⟨g, k * 5 + 1, none⟩), .int .i64 key, wdv x] w fun e w' => e = .returned (.tuple #[]) ∧ TabOk w w' base tp ⟨t.syms.set k ⟨s.name, s.fn, s.has, putL s.props key x⟩, t.find⟩ lab := by
  rcases ha with h1 | ⟨h1, h2⟩
  · obtain ⟨y, hy⟩ := hasKey_at h1
    have := put_same h hb hv hs key x y hy
    unfold putL
    rw [if_pos h1]
    exact this
  · rw [putL_end h1]
    exact put_end h hb hv hs key x h1 h2

theorem setProp_none1 {w : World} {base tp : Nat} {t : Tb} {lab : Nat → Option TLab} {P : TParts} (h : TabIs w base tp t lab P) (i key : Int) (x : Wd) (hi : symO t i = none) :
    Calls Tryd.prog 61 #[tptr tp, .int .i64 i, .int .i64 key, wdv x] w fun e w' => e = .returned (.int .i64 8) ∧ Below w.heap.size w w' := by
  have hb := boxN_below w x
  have h1 := h.below hb
  have HV := Lib.hid h1.valid
  have HS := Lib.hid (h1.nosymbol i hi _ (Below.refl _ _))
  have HB := Lib.hid hb
  clear h h1 hi hb
  go_enter Tryd.func61, Tryd.ntmps61
  go_wp2_with fail
  refine HV.out.mono ?_
  rintro e w' ⟨rfl, rfl⟩
  go_wp2_with fail
  refine HS.out.mono ?_
  rintro e w' ⟨rfl, rfl⟩
  go_wp2_with fail
  go_ret
  exact ⟨rfl, HB.out⟩
theorem setProp_none2 {w : World} {base tp k : Nat} {t : Tb} {lab : Nat → Option TLab} {P : TParts} {s : Sy} (h : TabIs w base tp t lab P) (key : Int) (x : Wd) (hi : t.syms[k]? = some s) (hk : symO t key = none) :
    Calls Tryd.prog 61 #[tptr tp, .int .i64 (k : Int), .int .i64 key, wdv x] w fun e w' => e = .returned (.int .i64 8) ∧ Below w.heap.size w w' := by
  have hb := boxN_below w x
  have h1 := h.below hb
  have HV := Lib.hid h1.valid
  obtain ⟨g, cap, hv, hg, hr, hS⟩ := h1.symbol k s hi
  have HS := Lib.hid (hS _ (Below.refl _ _))
  have HS2 := Lib.hid (h1.nosymbol key hk _ (Below.refl _ _))
  have HB := Lib.hid hb
  clear h h1 hi hb hv hg hr hS hk
  go_enter Tryd.func61, Tryd.ntmps61
  go_wp2_with fail
  refine HV.out.mono ?_
  rintro e w' ⟨rfl, rfl⟩
  go_wp2_with fail
  refine HS.out.mono ?_
  rintro e w' ⟨rfl, rfl⟩
  go_wp2_with fail
  refine HS2.out.mono ?_
  rintro e w' ⟨rfl, rfl⟩
  go_wp2_with fail
  go_ret
  exact ⟨rfl, HB.out⟩
set_option maxHeartbeats 2000000 in
theorem setProp_some {w : World} {base tp k m : Nat} {t : Tb} {lab : Nat → Option TLab} {P : TParts} {s s2 : Sy} (h : TabIs w base tp t lab P) (hb0 : base ≤ w.heap.size) (x : Wd) (hi : t.syms[k]? = some s) (hk : t.syms[m]? = some s2) (ha : AtEnd s.props (m : Int)) :
    Calls Tryd.prog 61 #[tptr tp, .int .i64 (k : Int), .int .i64 (m : Int), wdv x] w fun e w' => e = .returned (.int .i64 0) ∧ TabOk w w' base tp ⟨t.syms.set k ⟨s.name, s.fn, s.has, putL s.props (m : Int) x⟩, t.find⟩ lab := by
  have hb := boxN_below w x
  have h1 := h.below hb
  have HV := Lib.hid h1.valid
  obtain ⟨g, cap, hv, hg, hr, hS⟩ := h1.symbol k s hi
  obtain ⟨g2, cap2, hv2, hg2, hr2, hS2⟩ := h1.symbol m s2 hk
  have HS := Lib.hid (hS _ (Below.refl _ _))
  have HS2 := Lib.hid (hS2 _ (Below.refl _ _))
  have HPut := Lib.hid (show ∀ W, Below (w.alloc (wboxN x)).heap.size (w.alloc (wboxN x)) W → Calls Tryd.prog 103 #[.pointer (some ⟨g, k * 5 + 1, none⟩), .int .i64 (m : Int), wdv x] W fun e w' => e = .returned (.tuple #[]) ∧ TabOk w w' base tp ⟨t.syms.set k ⟨s.name, s.fn, s.has, putL s.props (m : Int) x⟩, t.find⟩ lab from fun W hW => by
    refine (put_any (h1.below hW) (Nat.le_trans (Nat.le_trans hb0 hb.size) hW.size) hv hi (m : Int) x ha).mono ?_
    rintro e w' ⟨he, lab', P', hI, hA⟩
    exact ⟨he, lab', P', hI, (TAfter.below (hb.trans (hW.mono hb.size))).trans hA⟩)
  have hB := Blk.new w #[.int .i64 x.1, .int .i64 x.2] 28
  obtain ⟨b0, b1, _, _⟩ := hB.two
  clear h h1 hi hb hv hg hr hS hk hv2 hg2 hr2 hS2 ha hb0 hB
  go_enter Tryd.func61, Tryd.ntmps61
  go_wp2_with fail
  refine HV.out.mono ?_
  rintro e w' ⟨rfl, rfl⟩
  go_wp2_with fail
  refine HS.out.mono ?_
  rintro e w' ⟨rfl, rfl⟩
  go_wp2_with fail
  refine HS2.out.mono ?_
  rintro e w' ⟨rfl, rfl⟩
  go_wp2_with fail
  go_region_law ((go_simp; go_at_call 103; refine (HPut.out _ (by exact (Below.refl _ _).drew)).mono ?_; rintro e w3 ⟨rfl, ho⟩; have HO := Lib.hid ho; clear ho))
  all_goals (
    go_wp2_with fail
    go_ret
    exact ⟨rfl, HO.out⟩)
/-- The contract of SetProp, where a new key comes behind the others. -/
theorem setProp_any {w : World} {base tp : Nat} {t : Tb} {lab : Nat → Option TLab} {P : TParts} (h : TabIs w base tp t lab P) (hb : base ≤ w.heap.size) (i key : Int) (x : Wd) (ha : ∀ s, symO t i = some s → AtEnd s.props key) :
    Calls Tryd.prog 61 #[tptr tp, .int .i64 i, .int .i64 key, wdv x] w fun e w' => e = .returned (.int .i64 (setPropO t i key x).1) ∧ TabOk w w' base tp (setPropO t i key x).2 lab := by
  unfold setPropO
  cases hi : symO t i with
  | none => exact (setProp_none1 h i key x hi).mono fun e w' ⟨he, hb'⟩ => ⟨he, lab, P, h.below hb', .below hb'⟩
  | some s =>
    obtain ⟨k, rfl, hk, hs⟩ := symO_some hi
    cases hkey : symO t key with
    | none => exact (setProp_none2 h key x hs hkey).mono fun e w' ⟨he, hb'⟩ => ⟨he, lab, P, h.below hb', .below hb'⟩
    | some s2 =>
      obtain ⟨m, rfl, hm, hs2⟩ := symO_some hkey
      exact setProp_some h hb x hs hs2 (ha s hi)
end Go.Proofs.YtcdlfgggmigcnaaDoor.Nt
