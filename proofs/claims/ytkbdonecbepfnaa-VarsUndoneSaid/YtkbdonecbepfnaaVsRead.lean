/- The contracts of IsLocal, home and content. -/
import Derived.Test.YtkbdonecbepfnaaVsQuick
namespace Go.Proofs.Ytkbdonecbepfnaa.Vs
open Go.RowKit Go.Maps
open Go.Proofs.Ytkbdonecbepfnaa.Own
set_option maxRecDepth 100000

/-- The two look-ups of a cell. -/
theorem VsIs.look {w : World} {base vp : Nat} {s : Vs} {lab : Nat → Option VLab} {P : VParts} (h : VsIs w base vp s lab P) (n k : Int) (hn : Wf n) (hk : Wf k) :
    (s.cells k n = none ∧ s.has k = false ∧ (Instr.lookup 52 (.map (some P.cb)) (.int .i64 k) false).run Try.prog w = .ok (.map none) w ∧ (Instr.lookup 66 (.map none) (.int .i64 n) false).run Try.prog w = .ok (.pointer none) w) ∨
    (s.cells k n = none ∧ s.has k = true ∧ (Instr.lookup 52 (.map (some P.cb)) (.int .i64 k) false).run Try.prog w = .ok (.map (some (P.im k))) w ∧ (Instr.lookup 66 (.map (some (P.im k))) (.int .i64 n) false).run Try.prog w = .ok (.pointer none) w) ∨
    (∃ c, s.cells k n = some c ∧ s.has k = true ∧ (Instr.lookup 52 (.map (some P.cb)) (.int .i64 k) false).run Try.prog w = .ok (.map (some (P.im k))) w ∧ (Instr.lookup 66 (.map (some (P.im k))) (.int .i64 n) false).run Try.prog w = .ok (ptr (P.cl k n)) w ∧ Blk w (P.cl k n) (clc c) 62) := by
  have h1 := h.outer.look mapT1 (zero1 w) hk
  cases hh : s.has k with
  | false =>
    refine .inl ⟨?_, rfl, ?_, look_nil w mapT2 (zero2 w) hn⟩
    · cases hc : s.cells k n with
      | none => rfl
      | some c => have := h.chas k n c hc; rw [hh] at this; cases this
    · rw [h1]
      simp [outF, hh]
  | true =>
    have h2 := (h.inner k hh).look mapT2 (zero2 w) hn
    have h1' : (Instr.lookup 52 (.map (some P.cb)) (.int .i64 k) false).run Try.prog w = .ok (.map (some (P.im k))) w := by
      rw [h1]
      simp [outF, hh]
    cases hc : s.cells k n with
    | none =>
      refine .inr (.inl ⟨rfl, rfl, h1', ?_⟩)
      rw [h2]
      simp [innF, hc]
    | some c =>
      refine .inr (.inr ⟨c, rfl, rfl, h1', ?_, h.cell k n c hc⟩)
      rw [h2]
      simp [innF, hc]

def isLocalB (s : Vs) (n k : Int) : Bool := isScopeB k && (s.cells k n).isSome
set_option maxHeartbeats 1000000 in
theorem isLocal_any {w : World} {base vp : Nat} {s : Vs} {lab : Nat → Option VLab} {P : VParts} (h : VsIs w base vp s lab P) (n k : Int) (hn : Wf n) (hk : Wf k) : Calls Try.prog 27 #[vptr vp, .int .i64 n, .int .i64 k] w fun e w' => e = .returned (.bool (isLocalB s n k)) ∧ w = w' := by
  have HV := Lib.hid h.valid
  have HS := Lib.hid (isScope_any k w)
  obtain ⟨c0, c1, c2, c3⟩ := h.blk.four
  have HL := h.look n k hn hk
  clear h
  unfold isLocalB
  cases hs : isScopeB k with
  | false =>
    rw [hs] at HS
    clear HL hs
    go_enter Try.func27, Try.ntmps27
    go_wp2_with fail
    refine HV.out.mono ?_
    rintro e w' ⟨rfl, rfl⟩
    go_wp2_with fail
    refine HS.out.mono ?_
    rintro e w' ⟨rfl, rfl⟩
    go_wp2
    go_ret
    exact ⟨rfl, rfl⟩
  | true =>
    rw [hs] at HS
    clear hs
    rcases HL with ⟨hc, hh, l1, l2⟩ | ⟨hc, hh, l1, l2⟩ | ⟨c, hc, hh, l1, l2, _⟩
    · rw [hc]
      have q := neqPtrn w
      clear hc hh
      go_enter Try.func27, Try.ntmps27
      go_wp2_with fail
      refine HV.out.mono ?_
      rintro e w' ⟨rfl, rfl⟩
      go_wp2_with fail
      refine HS.out.mono ?_
      rintro e w' ⟨rfl, rfl⟩
      go_wp2
      go_ret
      exact ⟨rfl, rfl⟩
    · rw [hc]
      have q := neqPtrn w
      clear hc hh
      go_enter Try.func27, Try.ntmps27
      go_wp2_with fail
      refine HV.out.mono ?_
      rintro e w' ⟨rfl, rfl⟩
      go_wp2_with fail
      refine HS.out.mono ?_
      rintro e w' ⟨rfl, rfl⟩
      go_wp2
      go_ret
      exact ⟨rfl, rfl⟩
    · rw [hc]
      have q := neqPtr w (P.cl k n)
      clear hc hh
      go_enter Try.func27, Try.ntmps27
      go_wp2_with fail
      refine HV.out.mono ?_
      rintro e w' ⟨rfl, rfl⟩
      go_wp2_with fail
      refine HS.out.mono ?_
      rintro e w' ⟨rfl, rfl⟩
      go_wp2
      go_ret
      exact ⟨rfl, rfl⟩

theorem VsIs.scopeWf {w : World} {base vp : Nat} {s : Vs} {lab : Nat → Option VLab} {P : VParts} (h : VsIs w base vp s lab P) : Wf s.scope := by
  have := h.sok
  unfold Wf
  omega
/-- The scope of a variable's cell. -/
def homeO (s : Vs) (n : Int) : Int := if isLocalB s n s.scope then s.scope else 0
theorem home_any {w : World} {base vp : Nat} {s : Vs} {lab : Nat → Option VLab} {P : VParts} (h : VsIs w base vp s lab P) (n : Int) (hn : Wf n) : Calls Try.prog 40 #[vptr vp, .int .i64 n] w fun e w' => e = .returned (.int .i64 (homeO s n)) ∧ w = w' := by
  have HI := Lib.hid (isLocal_any h n s.scope hn h.scopeWf)
  obtain ⟨c0, c1, c2, c3⟩ := h.blk.four
  clear h
  unfold homeO
  cases hs : isLocalB s n s.scope with
  | false =>
    rw [hs] at HI
    clear hs
    go_enter Try.func40, Try.ntmps40
    go_wp2_with fail
    refine HI.out.mono ?_
    rintro e w' ⟨rfl, rfl⟩
    go_wp2
    go_ret
    exact ⟨rfl, rfl⟩
  | true =>
    rw [hs] at HI
    clear hs
    go_enter Try.func40, Try.ntmps40
    go_wp2_with fail
    refine HI.out.mono ?_
    rintro e w' ⟨rfl, rfl⟩
    go_wp2
    go_ret
    exact ⟨rfl, rfl⟩

/-- What a cell contains. -/
def contentO (s : Vs) (n k : Int) : Cl := (s.cells k n).getD ((0, 0), false)
theorem blk_three {w : World} {g : Nat} {a b c : Value} {t : TypeId} (h : Blk w g #[a, b, c] t) : w.cell? ⟨g, 0, none⟩ = some a ∧ w.cell? ⟨g, 1, none⟩ = some b ∧ w.cell? ⟨g, 2, none⟩ = some c :=
  ⟨h.cell 0 _ rfl, h.cell 1 _ rfl, h.cell 2 _ rfl⟩
set_option maxHeartbeats 1000000 in
theorem content_any {w : World} {base vp : Nat} {s : Vs} {lab : Nat → Option VLab} {P : VParts} (h : VsIs w base vp s lab P) (n k : Int) (hn : Wf n) (hk : Wf k) : Calls Try.prog 42 #[vptr vp, .int .i64 n, .int .i64 k] w fun e w' => e = .returned (clv (contentO s n k)) ∧ Below w.heap.size w w' := by
  have h1 := fun o => h.alloc o
  obtain ⟨c0, c1, c2, c3⟩ := (h1 (.cells #[.int .i64 0, .int .i64 0, .bool false] 62)).blk.four
  have HL := (h1 (.cells #[.int .i64 0, .int .i64 0, .bool false] 62)).look n k hn hk
  clear h h1
  unfold contentO
  rcases HL with ⟨hc, hh, l1, l2⟩ | ⟨hc, hh, l1, l2⟩ | ⟨c, hc, hh, l1, l2, hb⟩
  · rw [hc]
    have q := fun w => neqPtrn w
    clear hc hh
    go_enter Try.func42, Try.ntmps42
    go_wp2
    refine bodyPost_ret (v := clv ((0, 0), false)) (by simp [results, Try.results42, go_sem]) rfl ⟨rfl, ?_⟩
    exact (Below.refl _ _).alloc (Nat.le_refl _) _
  · rw [hc]
    have q := fun w => neqPtrn w
    clear hc hh
    go_enter Try.func42, Try.ntmps42
    go_wp2
    refine bodyPost_ret (v := clv ((0, 0), false)) (by simp [results, Try.results42, go_sem]) rfl ⟨rfl, ?_⟩
    exact (Below.refl _ _).alloc (Nat.le_refl _) _
  · rw [hc]
    have q := neqPtr (w.alloc (.cells #[.int .i64 0, .int .i64 0, .bool false] 62)) (P.cl k n)
    obtain ⟨d0, d1, d2⟩ := blk_three hb
    clear hc hh hb
    go_enter Try.func42, Try.ntmps42
    go_wp2
    refine bodyPost_ret (v := clv c) (by simp [results, Try.results42, go_sem]) rfl ⟨rfl, ?_⟩
    exact (Below.refl _ _).alloc (Nat.le_refl _) _
end Go.Proofs.Ytkbdonecbepfnaa.Vs
