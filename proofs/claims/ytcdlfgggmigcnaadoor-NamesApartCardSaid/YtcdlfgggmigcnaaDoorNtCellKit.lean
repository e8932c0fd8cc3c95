/- What the walks of NamesCells and NamesApart share: tables behind a world, words of the law's own. -/
import Derived.Test.YtcdlfgggmigcnaaDoorNtProps2
import Derived.Test.YtcdlfgggmigcnaaDoorNtLives
import Derived.Test.YtcdlfgggmigcnaaDoorNtKit
namespace Go.Proofs.YtcdlfgggmigcnaaDoor.Nt
set_option maxRecDepth 100000
open Go.RowKit
open Go.Proofs.YtcdlfgggmigcnaaDoor.Own Go.Proofs.YtcdlfgggmigcnaaDoor.Strs Go.Proofs.YtcdlfgggmigcnaaDoor.Clone

theorem define_at {t : Tb} {k : Nat} {s : Sy} (hs : t.syms[k]? = some s) (hk : 2 ≤ k) (x : Wd) (has : Bool) : defineO t (k : Int) x has = (0, ⟨t.syms.set k ⟨s.name, x, has, s.props⟩, t.find⟩) := by
  unfold defineO
  rw [symO_nat, hs]
  simp only
  rw [if_neg (by omega), Int.toNat_natCast]
theorem setProp_at {t : Tb} {k m : Nat} {s : Sy} (hs : t.syms[k]? = some s) (hm : m < t.syms.length) (x : Wd) : setPropO t (k : Int) (m : Int) x = (0, ⟨t.syms.set k ⟨s.name, s.fn, s.has, putL s.props (m : Int) x⟩, t.find⟩) := by
  unfold setPropO
  rw [symO_nat, symO_nat, hs, List.getElem?_eq_getElem hm]
  simp only
  rw [Int.toNat_natCast]
theorem func_at {t : Tb} {k : Nat} {s : Sy} (hs : t.syms[k]? = some s) : funcO t (k : Int) = (s.fn, s.has) := by
  unfold funcO
  rw [symO_nat, hs]
theorem props_at {t : Tb} {k : Nat} {s : Sy} (hs : t.syms[k]? = some s) : propsO t (k : Int) = s.props := by
  unfold propsO
  rw [symO_nat, hs]
theorem placeN_nil (key : Int) : placeN [] key = 0 := rfl
theorem putL_nil (key : Int) (x : Wd) : putL [] key x = [(key, x)] := rfl
theorem atEnd_nil (key : Int) : AtEnd [] key := .inr ⟨rfl, by simp⟩
theorem hasKey_one (k : Int) (x : Wd) : hasKey [(k, x)] k = true ∧ placeN [(k, x)] k = 0 := by
  have h : placeN [(k, x)] k = 0 := by unfold placeN; simp
  refine ⟨?_, h⟩
  unfold hasKey
  rw [h]
  simp
theorem prop_one {t : Tb} {k : Nat} {s : Sy} {m : Int} {x : Wd} (hs : t.syms[k]? = some s) (hp : s.props = [(m, x)]) : propO t (k : Int) m = (x, true) := by
  unfold propO
  rw [symO_nat, hs]
  simp only
  rw [hp, (hasKey_one m x).1, (hasKey_one m x).2]
  rfl
theorem prop_other {t : Tb} {k : Nat} {s : Sy} {m j : Int} {x : Wd} (hs : t.syms[k]? = some s) (hp : s.props = [(m, x)]) (hj : j ≠ m) : propO t (k : Int) j = ((0, 0), false) := by
  have hk : hasKey [(m, x)] j = false := by
    unfold hasKey placeN
    by_cases h : m < j
    · simp [h]
    · simp [h]; omega
  unfold propO
  rw [symO_nat, hs]
  simp only
  rw [hp, hk]
  rfl
theorem set_at {l : List Sy} {k j : Nat} {s s' : Sy} (h : l[j]? = some s) (hne : k ≠ j) : (l.set k s')[j]? = some s := by rw [List.getElem?_set_ne hne]; exact h
theorem set_me {l : List Sy} {k : Nat} {s s' : Sy} (h : l[k]? = some s) : (l.set k s')[k]? = some s' := List.getElem?_set_self (List.getElem?_eq_some_iff.1 h).1
theorem t0_at (k : Nat) (h : k < 62) : ∃ n, t0.syms[k]? = some (newSy n) := by
  refine ⟨fx[k]'(by rw [fx_length]; exact h), ?_⟩
  show (fx.map newSy)[k]? = _
  rw [List.getElem?_map, List.getElem?_eq_getElem (by rw [fx_length]; exact h)]
  rfl

/-- A table in a world behind w1. -/
structure Cs (w1 wr : World) (tp : Nat) (t : Tb) (lab : Nat → Option TLab) (P : TParts) : Prop where
  tab : TabIs wr w1.heap.size tp t lab P
  below : Below w1.heap.size w1 wr
theorem Cs.later {w1 wr W : World} {tp : Nat} {t : Tb} {lab : Nat → Option TLab} {P : TParts} (h : Cs w1 wr tp t lab P) (hb : Below wr.heap.size wr W) : Cs w1 W tp t lab P := ⟨h.tab.below hb, h.below.trans (hb.mono h.below.size)⟩
theorem Cs.after {w1 wr W : World} {tp : Nat} {t t' : Tb} {lab lab' : Nat → Option TLab} {P P' : TParts} (h : Cs w1 wr tp t lab P) (hI : TabIs W w1.heap.size tp t' lab' P') (hA : TAfter wr W lab lab') : Cs w1 W tp t' lab' P' := ⟨hI, h.below.trans (hA.bel h.tab h.below.size)⟩
/-- A word of the law's own. -/
structure Bx (wr : World) (lab : Nat → Option TLab) (b : Nat) (x : Wd) : Prop where
  blk : Blk wr b #[.int .i64 x.1, .int .i64 x.2] 28
  lab : lab b = none
theorem Bx.later {wr W : World} {lab : Nat → Option TLab} {b : Nat} {x : Wd} (h : Bx wr lab b x) (hb : Below wr.heap.size wr W) : Bx W lab b x := ⟨h.blk.below hb, h.lab⟩
theorem Bx.after {wr W : World} {lab lab' : Nat → Option TLab} {b : Nat} {x : Wd} (h : Bx wr lab b x) (hA : TAfter wr W lab lab') : Bx W lab' b x := by
  refine ⟨h.blk.keeps hA.keeps (by unfold TOf; rw [h.lab]; simp), ?_⟩
  cases hh : lab' b with
  | none => rfl
  | some l =>
    rcases hA.grow b (by unfold TOf; rw [hh]; simp) with e | e
    · exact absurd h.lab e
    · have := h.blk.lt; omega
theorem Bx.new {w1 wr : World} {tp : Nat} {t : Tb} {lab : Nat → Option TLab} {P : TParts} (h : Cs w1 wr tp t lab P) (x : Wd) : Bx (wr.alloc (wboxN x)) lab wr.heap.size x := ⟨Blk.new wr _ _, h.tab.fresh (Nat.le_refl _)⟩

theorem pick_next (r : Nat) (h : r < 62) : pickZ ((r : Int) + 1) 62 = ((if r = 61 then 0 else r + 1 : Nat) : Int) := by
  unfold pickZ
  rw [Int.tmod_eq_emod_of_nonneg (by omega)]
  split <;> split <;> omega
end Go.Proofs.YtcdlfgggmigcnaaDoor.Nt
