/- Variables, their copy, and a row of acts beside them. -/
import Derived.Test.YtkbdonecbepfnaaVsTwo
import Derived.Test.YtkbdonecbepfnaaVsActs
import Derived.Test.YtkbdonecbepfnaaVsValues
namespace Go
open Go.Proofs.Ytkbdonecbepfnaa.Own
theorem step_append_row {P : Program} {ops : Array Oper} {o : Oper} {a : Act} {w : World} {K : Act → World → Prop} {Q : Exit → Act → World → Prop} {E : Prop}
    (hg : o.guard = none) (s x : Operand) (t : TypeId) (hop : o.op = Op.call { callee := Callee.builtin Builtin.append, args := #[s, x], argTypes := #[t, t] })
    (base : Nat) (e : TypeId) (i : TypeInfo) (z : Value) (size bytes : Nat) (ht : P.underlying t = some (.slice e)) (hi : P.info? e = some i) (hz : i.zero = some z)
    (hsize : i.size = size) (hby : i.bytes = bytes) (hzs : z.cells.size = size) (hsz : 0 < size)
    (v : Value) (n : Nat) (xs : List Value) (hs : a.eval s = v) (hown : w.ownsRow base e size v n xs)
    (ad : Addr) (m c : Nat) (news : List Value) (hx : a.eval x = .slice (some ad) m c) (hl : news.length = m * size) (hnews : ∀ j u, news[j]? = some u → w.cell? (ad.add j) = some u) (h1 : ∀ u ∈ news, u.oneCell' = true)
    (h63 : n + m ≤ maxLen) (hbytes : (n + m) * bytes ≤ 140737488355328) (hbase : base ≤ w.heap.size)
    (hK : ∀ A' c' w', Appended w w' base e size v (.slice A' (n + m) c') (n + m) (xs ++ news) → K (a.put o.dst (.slice A' (n + m) c')) w') :
    if Region.wanted o (yielded ops a.tmps) = true then Oper.wp P o a w K Q else E := by
  have hw : Region.wanted o (yielded ops a.tmps) = true := by simp [Region.wanted, hg]
  rw [if_pos hw]
  obtain ⟨v', w', hrun, h2, h3, h4⟩ := run_append_place (P := P) w base t o.type e i z size bytes ht hi hz hsize hby hzs hsz v n xs hown ad m c news hl hnews h1 h63 hbytes hbase
  unfold Oper.wp
  simp only [execOp, hop, resolve, invoke, builtin, Sem.run_bind, Sem.run_pure, Result.andThen_ok, List.map_toArray, List.map_cons, List.map_nil, hs, hx, hrun]
  obtain ⟨A', c', rfl⟩ := slice_of' h2
  exact hK A' c' w' ⟨h2, h3, h4⟩
end Go
namespace Go.Proofs.Ytkbdonecbepfnaa.Vs
open Go.RowKit Go.Maps Go.Lib
open Go.Proofs.Ytkbdonecbepfnaa.Own
set_option maxRecDepth 100000

/-- The cells of acts of which only the variable and the scope count. -/
def acells : List (Int × Int) → List Value
  | [] => []
  | p :: l => .int .i64 0 :: .int .i64 p.1 :: .int .i64 p.2 :: .int .i64 0 :: .int .i64 0 :: acells l
theorem acells_length (l : List (Int × Int)) : (acells l).length = l.length * 5 := by
  induction l with
  | nil => rfl
  | cons s l ih => simp only [acells, List.length_cons, ih]; omega
theorem acells_append (l m : List (Int × Int)) : acells (l ++ m) = acells l ++ acells m := by
  induction l with
  | nil => rfl
  | cons s l ih => simp [acells, ih]
theorem acells_at (l : List (Int × Int)) (k : Nat) (p : Int × Int) (h : l[k]? = some p) : (acells l)[k * 5 + 1]? = some (.int .i64 p.1) ∧ (acells l)[k * 5 + 2]? = some (.int .i64 p.2) := by
  induction l generalizing k with
  | nil => simp at h
  | cons s l ih =>
    cases k with
    | zero =>
      simp only [List.getElem?_cons_zero, Option.some.injEq] at h
      subst h
      exact ⟨rfl, rfl⟩
    | succ k =>
      rw [List.getElem?_cons_succ] at h
      have := ih k h
      rw [show (k + 1) * 5 = k * 5 + 1 + 1 + 1 + 1 + 1 by omega, acells]
      simpa only [List.getElem?_cons_succ] using this
theorem act_info : (Try.prog.info? 31).map (fun i => (i.zero, i.size, i.bytes)) = some (some (.agg #[.int .i64 0, .int .i64 0, .int .i64 0, .int .i64 0, .int .i64 0]), 5, 40) := by kernel_rfl
theorem VsIs.strike {w : World} {base vp : Nat} {s : Vs} {lab : Nat → Option VLab} {P : VParts} (h : VsIs w base vp s lab P) {g : Nat} {cur : Array Value} (hg : w.heap[g]? = some (.cells cur 31 (0, 0))) (hv : ¬ VOf lab g) :
    VsIs w base vp s (fun b => if decide (b = g) = true then none else lab b) P :=
  h.relab (fun b => decide (b = g)) (fun b hb => decide_eq_false fun e => hv (e ▸ hb)) fun i b hi => by
    have k1 := (h.kbox i b hi).2
    have n1 := (h.nbox i b hi).2
    unfold Blk at k1 n1
    refine ⟨decide_eq_false fun e => ?_, decide_eq_false fun e => ?_⟩
    · rw [e, hg] at k1
      injection k1 with k1
      injection k1 with _ k2
      exact absurd k2 (by decide)
    · rw [e, hg] at n1
      injection n1 with n1
      injection n1 with _ n2
      exact absurd n2 (by decide)

/-- Variables s at vp, others t at op, of which no call on the first writes anything, and a row of acts of which none does either. -/
structure Tri (w : World) (base vp op : Nat) (s t : Vs) (v : Value) (l : List (Int × Int)) : Prop where
  is : ∃ lab P lab2 P2, VsIs w base vp s lab P ∧ VsIs w base op t lab2 P2 ∧ (∀ b, VOf lab b → lab2 b = none) ∧ ∀ g, v.ownBlock = some g → ¬ VOf lab g ∧ ¬ VOf lab2 g
  row : w.ownsRow base 31 5 v l.length (acells l)
theorem Tri.start {w : World} {base vp op : Nat} {s t : Vs} (h : Two w base vp op s t) : Tri w base vp op s t (.slice none 0 0) [] := by
  obtain ⟨lab, P, lab2, P2, h1, h2, h3⟩ := h
  exact ⟨⟨lab, P, lab2, P2, h1, h2, h3, fun g hg => by cases hg⟩, ⟨rfl, .inl ⟨rfl, rfl⟩⟩⟩
theorem Tri.below {w w' : World} {base vp op : Nat} {s t : Vs} {v : Value} {l : List (Int × Int)} (h : Tri w base vp op s t v l) (hb : Below w.heap.size w w') : Tri w' base vp op s t v l := by
  obtain ⟨⟨lab, P, lab2, P2, h1, h2, h3, h4⟩, h5⟩ := h
  exact ⟨⟨lab, P, lab2, P2, h1.below hb, h2.below hb, h3, h4⟩, owns_below h5 hb⟩
/-- A call on the first. -/
theorem Tri.act {w : World} {base vp op : Nat} {s s' t : Vs} {v : Value} {l : List (Int × Int)} {f : FuncId} {args : Array Value} {r : Value} (h : Tri w base vp op s t v l) (hb : base ≤ w.heap.size)
    (hc : ∀ lab P, VsIs w base vp s lab P → Calls Try.prog f args w fun e w' => e = .returned r ∧ VsOk w w' base vp s' lab) : Calls Try.prog f args w fun e w' => e = .returned r ∧ Tri w' base vp op s' t v l ∧ Below base w w' := by
  obtain ⟨⟨lab, P, lab2, P2, h1, h2, h3, h4⟩, hr⟩ := h
  refine (hc lab P h1).mono ?_
  rintro e w' ⟨rfl, lab', P', h5, h6⟩
  refine ⟨rfl, ⟨⟨lab', P', lab2, P2, h5, h2.keeps h6.keeps h3, fun b hv => ?_, fun g hg => ⟨fun hv => ?_, (h4 g hg).2⟩⟩, owns_keeps hr h6.keeps fun g hg => (h4 g hg).1⟩, h6.bel h1 hb⟩
  · rcases h6.grow b hv with e | e
    · exact h3 b e
    · exact h2.fresh e
  · rcases h6.grow g hv with e | e
    · exact (h4 g hg).1 e
    · have := (owns_blt hr hg).2
      omega
/-- A call that only reads the first. -/
theorem Tri.quiet {w : World} {base vp op : Nat} {s t : Vs} {v : Value} {l : List (Int × Int)} {f : FuncId} {args : Array Value} {Q : Ending → World → Prop} (h : Tri w base vp op s t v l)
    (hc : ∀ lab P, VsIs w base vp s lab P → Calls Try.prog f args w Q) : Calls Try.prog f args w Q := by
  obtain ⟨⟨lab, P, _, _, h1, _⟩, _⟩ := h
  exact hc lab P h1
/-- A call that only reads the copy. -/
theorem Tri.copy {w : World} {base vp op : Nat} {s t : Vs} {v : Value} {l : List (Int × Int)} {f : FuncId} {args : Array Value} {Q : Ending → World → Prop} (h : Tri w base vp op s t v l)
    (hc : ∀ lab P, VsIs w base op t lab P → Calls Try.prog f args w Q) : Calls Try.prog f args w Q := by
  obtain ⟨⟨_, _, lab, P, _, h1, _⟩, _⟩ := h
  exact hc lab P h1
/-- An act is appended. -/
theorem Tri.push {w W w' : World} {base vp op m : Nat} {s t : Vs} {v v' : Value} {l : List (Int × Int)} (h : Tri w base vp op s t v l) (hb : Below w.heap.size w W) (n k : Int) (hm : m = l.length + 1)
    (hap : Appended W w' base 31 5 v v' m (acells l ++ [.int .i64 0, .int .i64 n, .int .i64 k, .int .i64 0, .int .i64 0])) : Tri w' base vp op s t v' (l ++ [(n, k)]) := by
  subst hm
  obtain ⟨⟨lab, P, lab2, P2, h1, h2, h3, h4⟩, hr⟩ := h.below hb
  have hk : Keeps (fun b => v.ownBlock = some b) W w' := (Keeps.refl _ W).grown hap.grown fun k hk _ => hk
  have hrow : w'.ownsRow base 31 5 v' (l ++ [(n, k)]).length (acells (l ++ [(n, k)])) := by
    rw [acells_append, List.length_append]
    exact hap.row
  cases ho : v.ownBlock with
  | none =>
    refine ⟨⟨lab, P, lab2, P2, h1.keeps hk fun b hb => ?_, h2.keeps hk fun b hb => ?_, h3, fun g hg => ?_⟩, hrow⟩
    · rw [ho] at hb; cases hb
    · rw [ho] at hb; cases hb
    · rcases hap.place g hg with e | e
      · rw [ho] at e; cases e
      · have f1 := h1.fresh (b := g) (by omega)
        have f2 := h2.fresh (b := g) (by omega)
        exact ⟨fun x => x.1 f1, fun x => x.1 f2⟩
  | some g =>
    obtain ⟨cur, hg⟩ : ∃ cur, W.heap[g]? = some (.cells cur 31 (0, 0)) := by
      rcases hr.2 with ⟨hv, _⟩ | ⟨g', cap, cur, hv, _, hg, _⟩
      · rw [hv] at ho; cases ho
      · rw [hv] at ho
        injection ho with ho
        exact ⟨cur, ho ▸ hg⟩
    have q1 := h1.strike hg (h4 g ho).1
    have q2 := h2.strike hg (h4 g ho).2
    refine ⟨⟨_, P, _, P2, q1.keeps hk fun b hb => ?_, q2.keeps hk fun b hb => ?_, fun b hb => ?_, fun g' hg' => ?_⟩, hrow⟩
    · rw [ho] at hb
      injection hb with hb
      simp [hb]
    · rw [ho] at hb
      injection hb with hb
      simp [hb]
    · by_cases e : b = g
      · simp [e]
      · have : VOf lab b := by simpa [VOf, e] using hb
        simpa [e] using h3 b this
    · rcases hap.place g' hg' with e | e
      · rw [ho] at e
        injection e with e
        subst e
        exact ⟨fun x => by simp [VOf] at x, fun x => by simp [VOf] at x⟩
      · have f1 := q1.fresh (b := g') (by omega)
        have f2 := q2.fresh (b := g') (by omega)
        exact ⟨fun x => x.1 f1, fun x => x.1 f2⟩
theorem Tri.pushBelow {w W w' : World} {base vp op m : Nat} {s t : Vs} {v v' : Value} {l : List (Int × Int)} {xs : List Value} (h : Tri w base vp op s t v l) (hb : Below w.heap.size w W) (hbase : base ≤ w.heap.size) (hap : Appended W w' base 31 5 v v' m xs) : Below base w w' := by
  have hr := (h.below hb).row
  have hs := hb.size
  exact (hb.mono hbase).trans (((Keeps.refl (fun b => v.ownBlock = some b) W).grown hap.grown fun k hk _ => hk).below (by omega) fun k hk => (owns_blt hr hk).1)
/-- Where the row lies. -/
theorem Tri.cells {w : World} {base vp op n c : Nat} {s t : Vs} {A : Option Addr} {l : List (Int × Int)} (h : Tri w base vp op s t (.slice A n c) l) (i : Nat) (p : Int × Int) (hi : l[i]? = some p) :
    n = l.length ∧ ∃ g, A = some ⟨g, 0, none⟩ ∧ w.cell? ⟨g, i * 5 + 1, none⟩ = some (.int .i64 p.1) ∧ w.cell? ⟨g, i * 5 + 2, none⟩ = some (.int .i64 p.2) := by
  have hlt := (List.getElem?_eq_some_iff.1 hi).1
  have hr := h.row
  rcases id hr.2 with ⟨_, hz⟩ | ⟨g, cap, cur, hv, _⟩
  · omega
  · cases hv
    obtain ⟨e1, e2⟩ := acells_at l i p hi
    exact ⟨rfl, g, rfl, (Row.of_owns hr).cell _ _ e1, (Row.of_owns hr).cell _ _ e2⟩
theorem Tri.len {w : World} {base vp op : Nat} {s t : Vs} {v : Value} {l : List (Int × Int)} (h : Tri w base vp op s t v l) : ∃ A c, v = .slice A l.length c := slice_of' h.row
end Go.Proofs.Ytkbdonecbepfnaa.Vs
