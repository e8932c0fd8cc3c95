/- The contract of Unbind. -/
import Derived.Test.YtkbdonecbepfnaaVsUnbind2
namespace Go.Proofs.Ytkbdonecbepfnaa.Vs
open Go.RowKit Go.Maps Go.Lib Go.Shelf
open Go.Proofs.Ytkbdonecbepfnaa.Own
set_option maxRecDepth 100000

theorem slice_tail (W : World) (g m cap d : Nat) (hd : d < m) (hm : m ≤ cap) (_hc : cap ≤ 9223372036854775807) :
    (Instr.slice 54 (.slice (some ⟨g, 0, none⟩) m cap) (some (.int .i64 (d : Int))) none none).run Try.prog W = .ok (.slice (some ⟨g, d * 4, none⟩) (m - d) (cap - d)) W := by
  have h1 : ¬ cap = d := by omega
  have h2 : d ≤ m := by omega
  go_simp
theorem slice_top (W : World) (g m cap : Nat) (_hm : m ≤ cap) (_hc : cap ≤ 9223372036854775807) :
    (Instr.slice 54 (.slice (some ⟨g, 0, none⟩) m cap) (some (.int .i64 (m : Int))) none none).run Try.prog W = .ok (.slice (if cap = m then some ⟨g, 0, none⟩ else some ⟨g, m * 4, none⟩) 0 (cap - m)) W := by
  go_simp
theorem slice_none (W : World) :
    (Instr.slice 54 (.slice none 0 0) (some (.int .i64 ((0 : Nat) : Int))) none none).run Try.prog W = .ok (.slice none 0 0) W := by
  go_simp
theorem unbind_any {w : World} {base vp : Nat} {s : Vs} {lab : Nat → Option VLab} {P : VParts} (h : VsIs w base vp s lab P) (hgood : Good s) (depth : Int) :
    Calls Try.prog 16 #[vptr vp, .int .i64 depth] w fun e w' => e = .returned (.int .i64 (unbindO s depth).1) ∧ VsOk w w' base vp (unbindO s depth).2 lab := by
  unfold unbindO
  by_cases hd : 0 ≤ depth ∧ depth ≤ s.binds.length
  · rw [if_pos hd]
    obtain ⟨d, rfl⟩ : ∃ d : Nat, depth = (d : Int) := ⟨depth.toNat, by omega⟩
    simp only [Int.toNat_natCast]
    have hdm : d ≤ s.binds.length := by omega
    have hm2 := h.many
    have hvp : vp < w.heap.size := h.blk.lt
    rcases h.binds.2 with ⟨h1, h2⟩ | ⟨g, cap, cur, h1, _, hg, h3, h4, _⟩
    · obtain rfl : d = 0 := by omega
      exact unbind_gen h hgood 0 0 0 vp 0 0 none none h2 (Nat.le_refl _) h1 (by omega) hvp (by omega) (fun W => slice_none W)
        (fun W0 hB hlt hc _ => back_stops_nil Fence.wide 2 trivial rfl (w.heap.size + 1) vp 0 none _ _ W0 hlt hc)
    · unfold maxLen at h4
      by_cases hlt : d < s.binds.length
      · refine unbind_gen h hgood d s.binds.length cap g (s.binds.length - d) (cap - d) (some ⟨g, 0, none⟩) (some ⟨g, d * 4, none⟩) rfl hdm h1 rfl (Array.getElem?_eq_some_iff.1 hg).1 (fun _ => h.blab g (by rw [h1]; rfl)) (fun W => slice_tail W g _ cap d hlt h3 h4) fun W0 hB hl hc hI => ?_
        have hown := hI.binds
        rw [h1] at hown
        obtain ⟨hgl, hcells⟩ := tail_cells hown hlt
        exact back_stops Fence.wide 2 trivial rfl (by omega) (w.heap.size + 1) g (d * 4) (s.binds.length - d) (cap - d) _ _ (by omega) W0 hl hgl hc hcells
      · obtain rfl : d = s.binds.length := by omega
        exact unbind_gen h hgood _ _ cap vp 0 (cap - s.binds.length) (some ⟨g, 0, none⟩) _ rfl hdm h1 (by omega) hvp (by omega) (fun W => slice_top W g _ cap h3 h4)
          (fun W0 hB hl hc _ => back_stops_nil Fence.wide 2 trivial rfl (w.heap.size + 1) vp (cap - s.binds.length) _ _ _ W0 hl hc)
  · rw [if_neg hd]
    exact unbind_err h depth hd
end Go.Proofs.Ytkbdonecbepfnaa.Vs
