/- The contract of Values. -/
import Derived.Test.YtkbdonecbepfnaaVsRead
import Derived.Test.YtkbdonecbepfnaaVsVals
namespace Go.Proofs.Ytkbdonecbepfnaa.Vs
open Go.RowKit Go.Maps Go.Lib Go.Sort Go.Shelf
open Go.Proofs.Ytkbdonecbepfnaa.Own
set_option maxRecDepth 100000

/-- Between two steps of Values: the row of words. -/
structure ValSt (w wr : World) (v : Value) (ws : List Wd) : Prop where
  row : wr.ownsRow w.heap.size 29 2 v ws.length (wcells ws)
  below : Below w.heap.size w wr
/-- Beside it, a row of keys. -/
structure KSt (w wr : World) (v kv : Value) (kl : List Int) : Prop where
  row : wr.ownsRow w.heap.size 3 1 kv kl.length (kl.map encZ)
  ne : ∀ b, kv.ownBlock = some b → v.ownBlock ≠ some b
theorem owns_blt {w : World} {base : Nat} {e : TypeId} {size : Nat} {v : Value} {n : Nat} {xs : List Value} (h : w.ownsRow base e size v n xs) {b : Nat} (hb : v.ownBlock = some b) : base ≤ b ∧ b < w.heap.size := by
  rcases h.2 with ⟨rfl, _⟩ | ⟨g, cap, cur, rfl, h1, h2, _⟩
  · cases hb
  · cases hb
    exact ⟨h1, (Array.getElem?_eq_some_iff.1 h2).1⟩
theorem ValSt.later {w wr w2 : World} {v : Value} {ws : List Wd} (h : ValSt w wr v ws) (hb : Below wr.heap.size wr w2) : ValSt w w2 v ws :=
  ⟨owns_below h.row hb, h.below.trans (hb.mono h.below.size)⟩
theorem KSt.later {w wr w2 : World} {v kv : Value} {kl : List Int} (h : KSt w wr v kv kl) (hb : Below wr.heap.size wr w2) : KSt w w2 v kv kl :=
  ⟨owns_below h.row hb, h.ne⟩
theorem ValSt.grew {w wr w2 : World} {v v' : Value} {ws ws' : List Wd} (h : ValSt w wr v ws) (g : Grew wr w2 w.heap.size v v' ws') : ValSt w w2 v' ws' :=
  ⟨g.row, h.below.trans (g.keeps.below h.below.size fun _ hk => (owns_blt h.row hk).1)⟩
theorem KSt.grew {w wr w2 : World} {v v' kv : Value} {kl : List Int} {ws' : List Wd} (h : KSt w wr v kv kl) (g : Grew wr w2 w.heap.size v v' ws') : KSt w w2 v' kv kl := by
  refine ⟨owns_keeps h.row g.keeps fun b hb => h.ne b hb, fun b hb hv => ?_⟩
  rcases g.place b hv with e | e
  · exact h.ne b hb e
  · have := (owns_blt h.row hb).2
    omega
theorem KSt.of {w wr w2 : World} {v kv : Value} {ws : List Wd} {F : Int → Option Value} {kl : List Int} (h : ValSt w wr v ws) (k : KeyRow wr w2 F kv kl) : KSt w w2 v kv kl := by
  refine ⟨ownsRow_base_a k.row h.below.size, fun b hb hv => ?_⟩
  have := (owns_blt h.row hv).2
  have := (owns_blt k.row hb).1
  omega
theorem keys_cell {w wr : World} {v : Value} {A : Option Addr} {n c : Nat} {kl : List Int} (h : KSt w wr v (.slice A n c) kl) {j : Nat} {x : Int} (hx : kl[j]? = some x) : ∃ g, A = some ⟨g, 0, none⟩ ∧ wr.cell? ⟨g, j, none⟩ = some (.int .i64 x) := by
  have hlt : j < kl.length := (List.getElem?_eq_some_iff.1 hx).1
  have hr := h.row
  rcases h.row.2 with ⟨_, hz⟩ | ⟨g, cap, cur, hv, _⟩
  · omega
  · cases hv
    exact ⟨g, rfl, (Row.of_owns hr).cell j _ (by rw [List.getElem?_map, hx]; rfl)⟩

@[local go_sem] theorem run_store_func {P : Program} {w : World} {a : Addr} {m : Mode} (f : Fn) (x y : Array Value) : (store a (.func f x y) m).run P w = stored P w a (.func f x y) m := run_store P w a _ m rfl
set_option maxHeartbeats 3000000 in
theorem values_any {w : World} {base vp : Nat} {s : Vs} {lab : Nat → Option VLab} {P : VParts} (h : VsIs w base vp s lab P) :
    Calls Try.prog 18 #[vptr vp] w fun e w' => ∃ v, e = .returned v ∧ w'.ownsRow w.heap.size 29 2 v (valsC s ++ recs s.binds).length (wcells (valsC s ++ recs s.binds)) ∧ Below w.heap.size w w' := by
  have HV := Lib.hid h.valid
  obtain ⟨c0, c1, c2, c3⟩ := h.blk.four
  have HK := Lib.hid (keysO_any (some P.cb) w)
  have HS := Lib.hid (sorted_outer h.outer)
  have HI := Lib.hid h
  have HC := Lib.hid h.chas
  clear h
  go_enter Try.func18, Try.ntmps18
  go_wp2_with fail
  refine HV.out.mono ?_
  rintro e w' ⟨rfl, rfl⟩
  go_wp2_with fail
  refine HK.out.mono ?_
  rintro e w' ⟨rfl, rfl⟩
  go_wp2_with fail
  refine HS.out.mono ?_
  rintro e w1 ⟨kv, kl, rfl, hkr⟩
  have hv0 : ValSt w w (.slice none 0 0) [] := ⟨⟨rfl, .inl ⟨rfl, rfl⟩⟩, .refl _ _⟩
  have HVS := Lib.hid (hv0.later hkr.below)
  have HKS := Lib.hid (KSt.of hv0 hkr)
  have HKO := Lib.hid hkr.keys
  have hlen := hkr.keys.len
  obtain ⟨A, cc, rfl⟩ := slice_of' hkr.row
  clear hkr hv0 HK HS c0 c1 c2 c3
  go_wp2_with fail
  go_loopw [3, 20] (fun lv i wr => ∃ j : Nat, i = .int .i64 (j : Int) ∧ j ≤ kl.length ∧ Hid (ValSt w wr lv ((kl.take j).flatMap fun k => valsIn s k)) ∧ Hid (KSt w wr lv (.slice A kl.length cc) kl)) (fun _ i _ => kl.length - (intOf i).toNat)
  case atStart => exact ⟨0, rfl, Nat.zero_le _, HVS, HKS⟩
  case round =>
    obtain ⟨j, rfl, hj, HV1, HK1⟩ := hrel
    by_cases hlt : j < kl.length
    · have hltz : (j : Int) < kl.length := by omega
      obtain ⟨x, hx⟩ : ∃ x, kl[j]? = some x := ⟨_, List.getElem?_eq_getElem hlt⟩
      have hxm : x ∈ kl := List.mem_of_getElem? hx
      have hxr := HKO.out.range x hxm
      have hh : s.has x = true := by
        have := (HKO.out.mem x).1 hxm
        cases hs : s.has x with
        | true => rfl
        | false => simp [outF, hs] at this
      obtain ⟨g, rfl, hkc⟩ := keys_cell HK1.out hx
      have hv := HI.out.below HV1.out.below
      obtain ⟨c0, c1, c2, c3⟩ := hv.blk.four
      have hl1 := hv.outer.look mapT1 (zero1 wr) (x := x) (by unfold Wf; omega)
      simp only [outF, hh, if_true, Option.getD_some] at hl1
      have HK2 := Lib.hid (keysI_any (some (P.im x)) wr)
      have HS2 := Lib.hid (sorted_inner (hv.inner x hh))
      have HX := Lib.hid (take_flatMap kl (fun k => valsIn s k) j x hx)
      have HW := Lib.hid (take_len kl (fun k => valsIn s k) 65537 j (fun _ => valsIn_len s _))
      clear hv hxm hh hx
      go_wp2_with fail
      refine HK2.out.mono ?_
      rintro e w' ⟨rfl, rfl⟩
      go_wp2_with fail
      refine HS2.out.mono ?_
      rintro e w2 ⟨nv, nl, rfl, hnr⟩
      have HV2 := Lib.hid (HV1.out.later hnr.below)
      have HK3 := Lib.hid (HK1.out.later hnr.below)
      have HN3 := Lib.hid (KSt.of HV1.out hnr)
      have HNO := Lib.hid hnr.keys
      have hnlen := hnr.keys.len
      obtain ⟨B, nc, rfl⟩ := slice_of' hnr.row
      clear hnr HK2 HS2 c0 c1 c2 c3 hl1 hkc
      go_wp2_with fail
      go_loopw [3, 33] (fun lv i wr => ∃ q : Nat, i = .int .i64 (q : Int) ∧ q ≤ nl.length ∧ Hid (ValSt w wr lv (((kl.take j).flatMap fun k => valsIn s k) ++ (nl.take q).flatMap fun n => opt (cont s x n))) ∧ Hid (KSt w wr lv (.slice (some ⟨g, 0, none⟩) kl.length cc) kl) ∧ Hid (KSt w wr lv (.slice B nl.length nc) nl)) (fun _ i _ => nl.length - (intOf i).toNat)
      case atStart => exact ⟨0, rfl, Nat.zero_le _, by simpa using HV2, HK3, HN3⟩
      case round =>
        obtain ⟨q, rfl, hq, HV4, HK4, HN4⟩ := hrel
        by_cases hqt : q < nl.length
        · have hqtz : (q : Int) < nl.length := by omega
          obtain ⟨y, hy⟩ : ∃ y, nl[q]? = some y := ⟨_, List.getElem?_eq_getElem hqt⟩
          have hym : y ∈ nl := List.mem_of_getElem? hy
          have hyr := HNO.out.range y hym
          obtain ⟨c, hc⟩ : ∃ c, s.cells x y = some c := by
            have := (HNO.out.mem y).1 hym
            cases hs : s.cells x y with
            | some c => exact ⟨c, rfl⟩
            | none => simp [innF, hs] at this
          obtain ⟨gn, rfl, hkc⟩ := keys_cell HN4.out hy
          have hv := HI.out.below HV4.out.below
          obtain ⟨c0, c1, c2, c3⟩ := hv.blk.four
          obtain ⟨hl1, hl2, hbk⟩ : (Instr.lookup 52 (.map (some P.cb)) (.int .i64 x) false).run Try.prog wr = .ok (.map (some (P.im x))) wr ∧ (Instr.lookup 66 (.map (some (P.im x))) (.int .i64 y) false).run Try.prog wr = .ok (ptr (P.cl x y)) wr ∧ Blk wr (P.cl x y) (clc c) 62 := by
            rcases hv.look y x (by unfold Wf; omega) (by unfold Wf; omega) with h | h | ⟨d, h1, h2, h3, h4, h5⟩
            · rw [hc] at h; cases h.1
            · rw [hc] at h; cases h.1
            · rw [hc] at h1
              cases h1
              exact ⟨h3, h4, h5⟩
          have k0 := hbk.cell 0 _ rfl
          have k1 := hbk.cell 1 _ rfl
          have k2 := hbk.cell 2 _ rfl
          have HQ := Lib.hid (take_flatMap nl (fun n => opt (cont s x n)) q y hy)
          have HQW := Lib.hid (take_len nl (fun n => opt (cont s x n)) 1 q (fun _ => opt_len _))
          have HCO := Lib.hid (show cont s x y = c by simp [cont, hc])
          have hlw : (((kl.take j).flatMap fun k => valsIn s k) ++ (nl.take q).flatMap fun n => opt (cont s x n)).length < 5000000000 := by
            rw [List.length_append]
            have := HW.out
            have := HQW.out
            omega
          have HA := Lib.hid (appendTo_any w.heap.size c _ _ wr HV4.out.row HV4.out.below.size hlw)
          clear hlw
          clear hv hym hc hy hbk
          go_wp2_with fail
          refine HA.out.mono ?_
          rintro e w5 ⟨v5, rfl, hg5⟩
          have HV5 := Lib.hid (HV4.out.grew hg5)
          have HK5 := Lib.hid (HK4.out.grew hg5)
          have HN5 := Lib.hid (HN4.out.grew hg5)
          clear hg5 HA
          go_wp2_with fail
          go_roundw
          case rel => exact ⟨q + 1, by go_num, by omega, by rw [HQ.out, ← List.append_assoc, HCO.out]; exact HV5, HK5, HN5⟩
          case measure => simp [intOf]; omega
        · obtain rfl : q = nl.length := by omega
          have hqtz : ¬ ((nl.length : Nat) : Int) < nl.length := by omega
          go_wp2_with fail
          go_roundw
          case rel => exact ⟨j + 1, by go_num, by omega, by rw [HX.out, ← inner_keys HNO.out]; simpa using HV4, HK4⟩
          case measure => simp [intOf]; omega
    · obtain rfl : j = kl.length := by omega
      have hltz : ¬ ((kl.length : Nat) : Int) < kl.length := by omega
      have hVC := HV1.out
      rw [List.take_length, outer_keys HC.out HKO.out] at hVC
      have HVC := Lib.hid hVC
      have hv := HI.out.below HV1.out.below
      obtain ⟨c0, c1, c2, c3⟩ := hv.blk.four
      obtain ⟨Ab, cb, hbv⟩ := slice_of' HI.out.binds
      rw [hbv] at c3
      have hmb := HI.out.many
      have HBV := Lib.hid hbv
      have HLC := Lib.hid (valsC_len s)
      clear hVC HV1 HK1 hv hbv
      go_wp2_with fail
      go_loopw [3, 56] (fun lv i wr => ∃ q : Nat, i = .int .i64 (q : Int) ∧ q ≤ s.binds.length ∧ Hid (ValSt w wr lv (valsC s ++ recs (s.binds.take q)))) (fun _ i _ => s.binds.length - (intOf i).toNat)
      case atStart => exact ⟨0, rfl, Nat.zero_le _, by simpa [recs] using HVC⟩
      case round =>
        obtain ⟨q, rfl, hq, HV4⟩ := hrel
        by_cases hqt : q < s.binds.length
        · have hqtz : (q : Int) < s.binds.length := by omega
          obtain ⟨b, hb⟩ : ∃ b, s.binds[q]? = some b := ⟨_, List.getElem?_eq_getElem hqt⟩
          have hv := HI.out.below HV4.out.below
          have hro := hv.binds
          rw [HBV.out] at hro
          obtain ⟨gb, rfl, k0, k1, k2, k3⟩ : ∃ gb, Ab = some ⟨gb, 0, none⟩ ∧ wr.cell? ⟨gb, q * 4, none⟩ = some (.int .i64 b.old.1.1) ∧ wr.cell? ⟨gb, q * 4 + 1, none⟩ = some (.int .i64 b.old.1.2) ∧ wr.cell? ⟨gb, q * 4 + 2, none⟩ = some (.bool b.old.2) ∧ wr.cell? ⟨gb, q * 4 + 3, none⟩ = some (.func (.func 41) #[] #[ptr (P.bx q).1, ptr (P.bx q).2]) := by
            rcases hro.2 with ⟨_, hz⟩ | ⟨g, cap, cur, hvv, _⟩
            · omega
            · cases hvv
              have hr' := Row.of_owns hro
              exact ⟨g, rfl, hr'.cell (q * 4 + 0) _ ((bcells_at _ _ q b hb 0 (by omega)).trans rfl), hr'.cell (q * 4 + 1) _ ((bcells_at _ _ q b hb 1 (by omega)).trans rfl), hr'.cell (q * 4 + 2) _ ((bcells_at _ _ q b hb 2 (by omega)).trans rfl), hr'.cell (q * 4 + 3) _ ((bcells_at _ _ q b hb 3 (by omega)).trans rfl)⟩
          have HQ := Lib.hid (take_flatMap s.binds (fun b => opt b.old) q b hb)
          have hlw : (valsC s ++ recs (s.binds.take q)).length < 5000000000 := by
            rw [List.length_append]
            have := HLC.out
            have := recs_len (s.binds.take q)
            have := List.length_take_le' q s.binds
            omega
          have HA := Lib.hid (fun W (hb : Below wr.heap.size wr W) => appendTo_any w.heap.size b.old _ _ W (owns_below HV4.out.row hb) (Nat.le_trans HV4.out.below.size hb.size) hlw)
          clear hlw hv hro hb
          go_wp2_with fail
          refine (HA.out _ ?_).mono ?_
          · exact (Below.refl _ _).alloc (Nat.le_refl _) _
          rintro e w5 ⟨v5, rfl, hg5⟩
          have HV5 := Lib.hid ((HV4.out.later ((Below.refl _ _).alloc (Nat.le_refl _) _)).grew hg5)
          clear hg5 HA
          go_wp2_with fail
          go_roundw
          case rel => exact ⟨q + 1, by go_num, by omega, by unfold recs at HV5 ⊢; rw [HQ.out, ← List.append_assoc]; exact HV5⟩
          case measure => simp [intOf]; omega
        · obtain rfl : q = s.binds.length := by omega
          have hqtz : ¬ ((s.binds.length : Nat) : Int) < s.binds.length := by omega
          have hV9 := HV4.out
          rw [List.take_length] at hV9
          have h9 := hV9.row
          rw [List.length_append] at h9
          go_wp2_with fail
          go_ret
          exact ⟨_, rfl, h9, hV9.below⟩
end Go.Proofs.Ytkbdonecbepfnaa.Vs
