/- HeapHolds where the slice is empty, and the whole. -/
import Derived.Test.YtcdlfgggmigcnaaDoorHoldsWalk
import Derived.BigQuiet
import Derived.BigGuardPart
namespace Go.Proofs.YtcdlfgggmigcnaaDoor.Holds
set_option maxRecDepth 100000
open Go.RowKit
open Go.Proofs.YtcdlfgggmigcnaaDoor.Own Go.Proofs.YtcdlfgggmigcnaaDoor.Hp Go.Proofs.YtcdlfgggmigcnaaDoor.Rep Go.Proofs.YtcdlfgggmigcnaaDoor.Get Go.Proofs.YtcdlfgggmigcnaaDoor.Quick Go.Proofs.YtcdlfgggmigcnaaDoor.Add Go.Proofs.YtcdlfgggmigcnaaDoor.Make Go.Proofs.YtcdlfgggmigcnaaDoor.Kit Go.Proofs.YtcdlfgggmigcnaaDoor.Strs Go.Proofs.YtcdlfgggmigcnaaDoor.Clone Go.Proofs.YtcdlfgggmigcnaaDoor.Lives

set_option maxHeartbeats 8000000 in
theorem core0 (A0 : Option Addr) (c0 : Nat) (s : ByteArray) (i : Int) (x : Wd) (w : World) (hl : SlR w (.slice A0 0 c0) 0 (wcells [])) (hs : s.size ≤ 300) (hT : Tabs w) :
    Calls Tryd.prog 4 #[.slice A0 0 c0, .string s, .int .i64 i, wd x] w fun e w' => e = .returned (.bool true) ∧ Below w.heap.size w w' := by
  have hbB : Below w.heap.size w (w.alloc (.cells #[.int .i64 x.1, .int .i64 x.2] 28)) := (Below.refl _ _).alloc (Nat.le_refl _) _
  have HX0 := Lib.hid (Blk.new w #[.int .i64 x.1, .int .i64 x.2] 28)
  have HL := Lib.hid (lives_any _ (hT.below hbB))
  have HT := Lib.hid hT
  have HSl := Lib.hid hl
  have HBB := Lib.hid hbB
  have HSs := Lib.hid hs
  clear hT hl hbB
  go_enter Tryd.func4, Tryd.ntmps4
  go_wp2_with fail
  refine HL.out.mono ?_
  rintro e w1 ⟨rfl, hb1⟩
  have HNew := Lib.hid (new_any 200 (by omega) (by omega) w1)
  have HB1 := Lib.hid (HBB.out.trans (hb1.mono HBB.out.size))
  have HX1 := Lib.hid (HX0.out.below hb1)
  clear hb1 HL HX0
  go_wp2_with fail
  refine HNew.out.mono ?_
  rintro e w2 ⟨rfl, hb2, hI2⟩
  have hv1 := vec_first (bs := [(w.heap.size, x)]) hI2 hb2 (fun p hp => by
    rcases List.mem_singleton.1 hp with rfl
    exact ⟨HX1.out.lt, HX1.out.below hb2⟩) (.slice A0 0 c0) [] (HSl.out.below (HB1.out.trans (hb2.mono HB1.out.size))) (by simp)
  have HV1 := Lib.hid hv1
  clear hb2 hI2 hv1 HNew
  go_wp2_with fail
  refine HV1.out.mono ?_
  rintro e w3 ⟨rfl, hH3⟩
  obtain ⟨T, tw, f, htw, htx⟩ := text_second (hH3.alloc (4, 0)) (by simp) s HSs.out (HT.out.below (HB1.out.trans ((hH3.alloc (4, 0)).below.mono HB1.out.size))) rfl
  have HTx := Lib.hid htx
  have HTw := Lib.hid htw
  clear hH3 htx htw HV1
  go_wp2_with fail
  refine HTx.out.mono ?_
  rintro e w5 ⟨rfl, hH5⟩
  have hH6 := hH5.alloc tw
  clear hH5 HTx
  go_wp2_with fail
  obtain ⟨bv, hbv⟩ : ∃ b, w3.heap.size = b := ⟨_, rfl⟩
  obtain ⟨bt, hbt⟩ : ∃ b, w5.heap.size = b := ⟨_, rfl⟩
  obtain ⟨W6, hW6⟩ : ∃ W, w5.alloc (.cells #[.int .i64 tw.1, .int .i64 tw.2] 28) = W := ⟨_, rfl⟩
  rw [hW6, hbv, hbt] at hH6
  rw [hW6, hbv, hbt]
  have HH6 := Lib.hid hH6
  have HVo := Lib.hid hH6.vecOf
  clear hH6 hW6 hbv hbt
  go_loopw [15, 16] (fun v i wr => v = .slice none 0 0 ∧ i = .int .i64 0 ∧ Hid (wr = W6)) (fun _ _ _ => 0)
  case atStart => exact ⟨rfl, rfl, rfl⟩
  case round =>
    obtain ⟨rfl, rfl, HW⟩ := hrel
    obtain rfl := HW.out
    obtain ⟨v0, v1⟩ := HH6.out.cell (b := bv) (x := (4, 0)) (by simp)
    go_wp2_with fail
    refine HVo.out.mono ?_
    rintro e w13 ⟨⟨vg, rfl, hrg⟩, hb13⟩
    obtain ⟨Ag, cg, rfl⟩ := slice_of' hrg
    have HH13 := Lib.hid (HH6.out.later hb13)
    clear hrg hb13 v0 v1 HVo
    go_wp2_with fail
    go_loopw [22] (fun j wr => j = .int .i64 0 ∧ Hid (wr = w13)) (fun _ _ => 0)
    case atStart => exact ⟨rfl, rfl⟩
    case round =>
      obtain ⟨rfl, HW2⟩ := hrel
      obtain rfl := HW2.out
      obtain ⟨u, p, htx, hup⟩ := HH13.out.textOf tw (fun p hp => by
        rcases HTw.out with ⟨_, e, _⟩ | ⟨_, _, e⟩
        · exact e
        · rw [e] at hp
          cases hp)
      obtain ⟨m4, m5⟩ := HH13.out.cell (b := bt) (x := tw) (by simp)
      have hbf := HB1.out.trans (HH13.out.below.mono HB1.out.size)
      have HTo := Lib.hid htx.at
      have HBf := Lib.hid hbf
      have HUp := Lib.hid hup
      clear htx hbf hup
      go_wp2_with fail
      refine HTo.out.mono ?_
      rintro e w20 ⟨rfl, hb20⟩
      have HB20 := Lib.hid (HBf.out.trans (hb20.mono HBf.out.size))
      have hcs : (f = 0 ∧ u = s ∧ p = 0) ∨ f = 5 := by
        rcases HTw.out with ⟨e, _, nn, _, e2⟩ | ⟨e, _⟩
        · exact .inl ⟨e, (HUp.out _ e2).1, (HUp.out _ e2).2⟩
        · exact .inr e
      clear hb20 HTo
      rcases hcs with ⟨rfl, rfl, rfl⟩ | rfl
      · go_wp2_with fail
        go_ret
        exact ⟨rfl, HB20.out⟩
      · go_wp2_with fail
        go_ret
        exact ⟨rfl, HB20.out⟩
/-- The whole. -/
theorem walk (v0 : Value) (l : List Wd) (s : ByteArray) (i : Int) (x : Wd) (w : World) (h0 : SlR w v0 l.length (wcells l)) (b0 : l.length ≤ 9223372036854775807) (hs : s.size ≤ maxLen) (hT : Tabs w) :
    Calls Tryd.prog 4 #[v0, .string s, .int .i64 i, wd x] w fun e w' => e = .returned (.bool true) ∧ Below w.heap.size w w' := by
  obtain ⟨A0, c0, rfl, _⟩ := id h0
  by_cases hl : 60 < l.length ∨ 300 < s.size
  · exact light A0 _ c0 s i x w b0 hs hl hT
  · by_cases hz : 0 < l.length
    · exact core A0 c0 l s i x w _ rfl h0 (by omega) (by omega) hT hz
    · have e : l = [] := List.eq_nil_of_length_eq_zero (by omega)
      subst e
      exact core0 A0 c0 s i x w h0 (by omega) hT
end Go.Proofs.YtcdlfgggmigcnaaDoor.Holds
