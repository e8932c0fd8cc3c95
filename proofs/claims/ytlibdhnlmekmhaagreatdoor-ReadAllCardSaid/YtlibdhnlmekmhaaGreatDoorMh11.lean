/- The contract of runes.List. | The contract of copyistkit.Same at integers: it compares two slices element by element. -/
import Derived.Laws.RangeString
import Derived.Laws.RangeAny
import Derived.LoopTactic
import Derived.Lib.OthersKept
import Derived.WalkSmall
import Derived.OwnWalk
import Derived.Laws.MakeOwn
import Derived.BigQuiet
import Derived.Deep.QuietTactic
import Derived.Test.YtlibdhnlmekmhaaGreatDoorMh03
/- The contract of runes.List. -/
section
namespace Go.Proofs.YtlibdhnlmekmhaaGreatDoor.Lst
set_option maxRecDepth 100000
open Go.RowKit Go.Shelf Go.Lib
open Go.Proofs.YtlibdhnlmekmhaaGreatDoor.Utf Go.Proofs.YtlibdhnlmekmhaaGreatDoor.Strs

theorem int_info : (Tryz.prog.info? 3).map (fun i => (i.zero, i.size, i.bytes)) = some (some (.int .i64 0), 1, 8) := by kernel_rfl

/-- An owned row stays where a string's iterator moves on. -/
theorem owns_iter {w : World} {base : Nat} {e : TypeId} {size : Nat} {v : Value} {n : Nat} {xs : List Value} (h : w.ownsRow base e size v n xs) {k : Nat} {s : ByteArray} {pos : Nat} (hk : w.heap[k]? = some (.stringIter s pos)) (pos' : Nat) :
    (w.iterAt k s pos').ownsRow base e size v n xs := by
  refine ⟨h.1, ?_⟩
  rcases h.2 with h0 | ⟨g, cap, cur, hv, hb, hg, rest⟩
  · exact .inl h0
  · refine .inr ⟨g, cap, cur, hv, hb, ?_, rest⟩
    rw [iterAt_other _ _ _ _ _ (by rintro rfl; rw [hk] at hg; cases hg)]
    exact hg
/-- An iterator is no owned row. -/
theorem owns_ne {w : World} {base : Nat} {e : TypeId} {size : Nat} {v : Value} {n : Nat} {xs : List Value} (h : w.ownsRow base e size v n xs) {k : Nat} {s : ByteArray} {pos : Nat} (hk : w.heap[k]? = some (.stringIter s pos)) : some k ≠ v.ownBlock := by
  rcases h.2 with ⟨rfl, _⟩ | ⟨g, cap, cur, rfl, hb, hg, rest⟩
  · simp [Value.ownBlock]
  · simp only [Value.ownBlock, ne_eq, Option.some.injEq]
    rintro rfl
    rw [hk] at hg
    cases hg

/-- The value, the row and the world that List leaves. -/
def Lists (w : World) (l : List UInt8) (e : Ending) (w' : World) : Prop :=
  ∃ g cap n, e = .returned (.tuple #[.slice (some ⟨g, 0, none⟩) n cap, .int .i64 0]) ∧ n = (runes l).length ∧ w'.ownsRow w.heap.size 3 1 (.slice (some ⟨g, 0, none⟩) n cap) n ((runes l).map (Value.int .i64)) ∧ Below w.heap.size w w'

theorem list_no (s : ByteArray) (w : World) (hs : s.size < 9223372036854775807) (hT : Tabs w) (hv : validD s.data.toList = false) :
    Calls Tryz.prog 119 #[.string s] w fun e w' => e = .returned (.tuple #[.slice none 0 0, .int .i64 5]) ∧ Below w.heap.size w w' := by
  have h := valid_any s w (by omega) hT
  rw [hv] at h
  have HV := Lib.hid h
  clear h hv
  go_enter Tryz.func119, Tryz.ntmps119
  go_wp2_with (go_at_call 162; refine HV.out.mono ?_; rintro e w' ⟨rfl, hb⟩)
  go_ret2
  exact ⟨rfl, hb⟩

set_option maxHeartbeats 2000000 in
theorem list_yes (s : ByteArray) (w : World) (hs : s.size < 1000000) (hT : Tabs w) (hv : validD s.data.toList = true) :
    Calls Tryz.prog 119 #[.string s] w (Lists w s.data.toList) := by
  have h := valid_any s w (by omega) hT
  rw [hv] at h
  have HV := Lib.hid h
  clear h hv
  have HC := Lib.hid (fun w' => Tryz.utf8_RuneCountInString s w' (by omega))
  have hle := runeCount_le s
  obtain ⟨i0, hi, hz0, hz1, hz2⟩ := info_parts int_info
  have HI := Lib.hid hi
  have HZ0 := Lib.hid hz0
  have HZ1 := Lib.hid hz1
  have HZ2 := Lib.hid hz2
  clear hi hz0 hz1 hz2
  obtain ⟨R, hR⟩ : ∃ R, runes s.data.toList = R := ⟨_, rfl⟩
  have hR0 : runes (from_ s 0) = R := hR
  have HR0 := Lib.hid hR0
  have HRL := Lib.hid (show runeCount s = R.length by rw [runeCount_eq, hR])
  unfold Lists
  rw [hR]
  clear hR hR0
  generalize runeCount s = rc at *
  go_enter Tryz.func119, Tryz.ntmps119
  go_wp2_with (first
    | (go_at_call 162; refine HV.out.mono ?_; rintro e w1 ⟨rfl, hb⟩)
    | (go_at_call 163; refine (HC.out _).mono ?_; rintro e w2 ⟨rfl, pos0, rfl⟩)
    | (at_make; refine wpList_make_own _ rfl _ _ 50 rfl w.heap.size 3 i0 (.int .i64 0) 1 Tryz.underlying50 HI.out HZ0.out HZ1.out .i64 .i64 _ rc rfl rfl rfl ?b2 ?b3 ?b4 ?_))
  case b2 => rw [HZ2.out]; omega
  case b3 => unfold maxLen; omega
  case b4 => have := hb.size; simp [World.iter]; omega
  intro w3 hown hgr
  have hb3 : Below w.heap.size w w3 := (hb.alloc hb.size _).grown hgr (by have := hb.size; simp; omega) (by simp)
  clear HV HC hb hgr
  go_wp2
  go_loopw [4] (fun v wr => ∃ (pos k : Nat), wr.heap[w3.heap.size]? = some (.stringIter s pos) ∧ k ≤ pos ∧ Hid (runes (from_ s pos) = R.drop k) ∧ k ≤ R.length ∧ Below w.heap.size w wr ∧ wr.ownsRow w.heap.size 3 1 v k ((R.take k).map (Value.int .i64)) ∧ Hid (∃ g cap, v = .slice (some ⟨g, 0, none⟩) k cap)) (fun _ wr => s.size - wr.iterPos w3.heap.size)
  case atStart => exact ⟨0, 0, World.iter_heap _ _ _, Nat.le_refl _, HR0.out, Nat.zero_le _, hb3.alloc hb3.size _, by rw [List.take_zero]; exact hown.alloc _, ⟨_, _, rfl⟩⟩
  case round =>
    obtain ⟨pos, k, hit, hkp, HI2, hkR, hbr, hownr, HV⟩ := hrel
    by_cases hp : pos < s.size
    · have hnx : ∀ ty, (Instr.next (.pointer (some ⟨w3.heap.size, 0, none⟩)) true ty).run Tryz.prog wr = _ := fun ty => run_next_any_at wr w3.heap.size s pos ty hit hp
      have hwd := decode_width_pos s pos hp
      have hle2 := decode_le s pos
      have hst := runes_from s pos hp
      rw [HI2.out] at hst
      have hkR2 : k < R.length := by
        have := congrArg List.length hst
        simp at this
        omega
      have hRk : R.take (k + 1) = R.take k ++ [((Utf8.decode s pos).1 : Int)] := by
        have h2 : R[k]? = some ((Utf8.decode s pos).1 : Int) := by rw [← List.head?_drop, hst]; rfl
        rw [List.take_add_one, h2]; rfl
      have hnext : Hid (runes (from_ s (pos + (Utf8.decode s pos).2)) = R.drop (k + 1)) := by
        show _ = _
        rw [← List.tail_drop, hst]
        rfl
      have hit2 := iterAt_heap wr w3.heap.size s pos (pos + (Utf8.decode s pos).2) hit
      have hown2 := owns_iter hownr hit (pos + (Utf8.decode s pos).2)
      have hbr2 := below_iterAt hbr hb3.size s (pos + (Utf8.decode s pos).2)
      have hK : w3.heap.size < (wr.iterAt w3.heap.size s (pos + (Utf8.decode s pos).2)).heap.size := (Array.getElem?_eq_some_iff.1 hit2).1
      have hne := owns_ne hown2 hit2
      have HRk := Lib.hid hRk
      have Hit0 := Lib.hid hit
      clear hst hRk HI2 hit hownr hbr
      generalize Utf8.decode s pos = D at *
      obtain ⟨d, dw⟩ := D
      have hdle : (d : Int) ≤ 2147483647 := by have : d ≤ 2147483647 := hle2; omega
      have hwd' : 1 ≤ dw := hwd
      have HRk' : Hid (R.take (k + 1) = R.take k ++ [(d : Int)]) := HRk
      have hnext' : Hid (runes (from_ s (pos + dw)) = R.drop (k + 1)) := hnext
      clear hle2 hwd HRk hnext
      obtain ⟨wi, hwi⟩ : ∃ wi, wi = wr.iterAt w3.heap.size s (pos + dw) := ⟨_, rfl⟩
      change ∀ ty, (Instr.next (.pointer (some ⟨w3.heap.size, 0, none⟩)) true ty).run Tryz.prog wr = .ok (.tuple #[.bool true, .int .i64 pos, .int .i32 d]) (wr.iterAt w3.heap.size s (pos + dw)) at hnx
      rw [← hwi] at hnx
      have hown2' : wi.ownsRow w.heap.size 3 1 u4 k ((R.take k).map (Value.int .i64)) := by rw [hwi]; exact hown2
      have hit2' : wi.heap[w3.heap.size]? = some (.stringIter s (pos + dw)) := by rw [hwi]; exact hit2
      have hbr2' : Below w.heap.size w wi := by rw [hwi]; exact hbr2
      have hK' : w3.heap.size < wi.heap.size := by rw [hwi]; exact hK
      clear hwi hown2 hit2 hbr2 hK
      have Hit := Lib.hid hit2'
      clear hit2'
      go_wp2_with (at_builtin; refine wpList_append_own _ rfl (.tmp 18) (.tmp 21) 50 rfl w.heap.size 3 i0 (.int .i64 0) 1 8 Tryz.underlying50 HI.out HZ0.out HZ1.out HZ2.out rfl (by decide) _ _ _ rfl (hown2'.alloc _) ⟨wi.heap.size, 0, none⟩ 1 1 [.int .i64 d] rfl rfl ?c1 ?c2 ?c3 ?c4 ?c5 ?_)
      case c1 =>
        intro j u hj
        match j, hj with
        | 0, hj => simp at hj; subst hj; simp [Addr.add]
        | (j + 1), hj => simp at hj
      case c2 => intro u hu; simp at hu; subst hu; rfl
      case c3 => unfold maxLen; omega
      case c4 => omega
      case c5 => have := hbr2'.size; simp; omega
      intro v' w5 hown5 hgr5 _
      have hit5 : w5.heap[w3.heap.size]? = some (.stringIter s (pos + dw)) := by
        rw [hgr5.block w3.heap.size (by simp; omega) hne, Below.heap_alloc wi _ w3.heap.size hK']
        exact Hit.out
      have hbr5 : Below w.heap.size w w5 := (hbr2'.alloc hbr2'.size _).grown hgr5 (by have := hbr2'.size; simp; omega) (fun g hg => (hown2'.lt g hg).1)
      have Hit5 := Lib.hid hit5
      have HV5 : Hid (∃ g cap, v' = .slice (some ⟨g, 0, none⟩) (k + 1) cap) := by
        rcases hown5.2 with ⟨_, h0⟩ | ⟨g, cap, cur, hv, _⟩
        · omega
        · exact ⟨g, cap, hv⟩
      clear hit5 hgr5 hnx
      go_wp2
      go_roundw
      case rel => exact ⟨pos + dw, k + 1, Hit5.out, by omega, hnext', by omega, hbr5, by rw [HRk'.out, List.map_append, List.map_take]; exact hown5, HV5⟩
      case measure =>
        have e1 : w5.iterPos w3.heap.size = pos + dw := by simp [World.iterPos, Hit5.out]
        have e2 : wr.iterPos w3.heap.size = pos := by simp [World.iterPos, Hit0.out]
        omega
    · have hnx : ∀ ty, (Instr.next (.pointer (some ⟨w3.heap.size, 0, none⟩)) true ty).run Tryz.prog wr = _ := fun ty => run_next_end_at wr w3.heap.size s pos ty hit hp
      have HD := HI2.out
      rw [runes_from_end s pos hp] at HD
      have hkl : R.length = k := by have := congrArg List.length HD; simp at this; omega
      have htake : R.take k = R := List.take_of_length_le (by omega)
      rw [htake] at hownr
      clear HD HI2 htake
      obtain ⟨g, cap, rfl⟩ := HV.out
      go_wp2
      go_ret2
      exact ⟨g, cap, k, rfl, hkl.symm, hownr, hbr⟩
end Go.Proofs.YtlibdhnlmekmhaaGreatDoor.Lst
end

/- The contract of copyistkit.Same at integers: it compares two slices element by element. -/
section
namespace Go.Proofs.YtlibdhnlmekmhaaGreatDoor.Lst
set_option maxRecDepth 100000
open Go.RowKit Go.Shelf Go.Lib

/-- A slice value that reads as a list of integers. -/
def IntSl (w : World) (v : Value) (R : List Int) : Prop :=
  ∃ A cap, v = .slice A R.length cap ∧ R.length ≤ cap ∧ (0 < R.length → ∃ g off, A = some ⟨g, off, none⟩ ∧ ∀ j, j < R.length → w.cell? ⟨g, off + j, none⟩ = some (.int .i64 (R.getD j 0)))

theorem IntSl.of_own {w : World} {base : Nat} {e : TypeId} {v : Value} {n : Nat} {R : List Int} (h : w.ownsRow base e 1 v n (R.map (Value.int .i64))) : IntSl w v R := by
  have hn : R.length = n := by have := h.1; simpa using this
  rcases h.2 with ⟨rfl, h0⟩ | ⟨g, cap, cur, rfl, hb, hg, hcap, _, hcs, htake⟩
  · exact ⟨none, 0, by rw [hn, h0], by omega, fun hh => by omega⟩
  · refine ⟨_, cap, by rw [hn], by omega, fun _ => ⟨g, 0, rfl, fun j hj => ?_⟩⟩
    have h1 : (R.map (Value.int .i64))[j]? = some (.int .i64 (R.getD j 0)) := by simp [List.getD, List.getElem?_eq_getElem hj]
    rw [← htake, List.getElem?_take, if_pos (by omega)] at h1
    simp only [World.cell?, hg, Nat.zero_add]
    simpa using h1

theorem IntSl.below {w w' : World} {v : Value} {R : List Int} (h : IntSl w v R) (hb : Below w.heap.size w w') : IntSl w' v R := by
  obtain ⟨A, cap, hv, hc, hr⟩ := h
  refine ⟨A, cap, hv, hc, fun h0 => ?_⟩
  obtain ⟨g, off, hA, hj⟩ := hr h0
  exact ⟨g, off, hA, fun j hlt => (hb.cell (World.block_lt_of_cell? _ _ (hj j hlt))).trans (hj j hlt)⟩
theorem IntSl.drewN {w : World} {v : Value} {R : List Int} (h : IntSl w v R) (q : Nat) : IntSl (w.drewN q) v R := h

end Go.Proofs.YtlibdhnlmekmhaaGreatDoor.Lst
end
