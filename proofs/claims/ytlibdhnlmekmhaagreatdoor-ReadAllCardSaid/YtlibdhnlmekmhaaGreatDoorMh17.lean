/- append onto a row of the call's own: where the row lies behind it. | The contracts of the library functions stand in the shelf. | The contracts of strings.Clone, Fresh and Intern. | The contract of Intern. -/
import Derived.WalkKit
import Derived.Laws.AppendOwn
import Derived.Laws.OwnMore
import Derived.Deep.RegionLaw
import Derived.Maps.AppendAt
import Derived.OwnWalk
import Derived.BigQuiet
import Derived.Deep.QuietTactic
import Derived.Deep.RegionHeld3
import Derived.Outline
import Derived.Test.YtlibdhnlmekmhaaGreatDoorMh01
import Derived.Test.YtlibdhnlmekmhaaGreatDoorMh03
import Derived.Test.YtlibdhnlmekmhaaGreatDoorMh16
/- append onto a row of the call's own: where the row lies behind it. -/
section
namespace Go
variable {P : Program}
theorem run_append_place (w : World) (base : Nat) (t ty e : TypeId) (i : TypeInfo) (z : Value) (size bytes : Nat) (ht : P.underlying t = some (.slice e)) (hi : P.info? e = some i) (hz : i.zero = some z)
    (hsize : i.size = size) (hby : i.bytes = bytes) (hzs : z.cells.size = size) (hsz : 0 < size)
    (v : Value) (n : Nat) (xs : List Value) (hown : w.ownsRow base e size v n xs)
    (a : Addr) (m c : Nat) (news : List Value) (hl : news.length = m * size) (hnews : ∀ j u, news[j]? = some u → w.cell? (a.add j) = some u) (h1 : ∀ u ∈ news, u.oneCell' = true)
    (h63 : n + m ≤ maxLen) (hbytes : (n + m) * bytes ≤ 140737488355328) (hbase : base ≤ w.heap.size) :
    ∃ v' w', (Builtin.append_ #[t, t] ty #[v, .slice (some a) m c]).run P w = .ok v' w' ∧ w'.ownsRow base e size v' (n + m) (xs ++ news) ∧ w.grownBy w' v.ownBlock ∧ (∀ b, v'.ownBlock = some b → v.ownBlock = some b ∨ b = w.heap.size) := by
  obtain ⟨v', w', hrun, h2, h3, h4⟩ := run_append_own (P := P) w base t ty e i z size bytes ht hi hz hsize hby hzs hsz v n xs hown a m c news hl hnews h1 h63 hbytes hbase
  refine ⟨v', w', hrun, h2, h3, ?_⟩
  subst hsize
  have hsmall : n + m ≤ 9223372036854775807 := by simp only [maxLen] at h63; omega
  rcases hown.2 with ⟨hv, hn⟩ | ⟨g, cap, cur, hv, _, hg, hnc, hcm, hcs, _⟩
  · subst hn
    by_cases hm : m = 0
    · rw [h4.2 ⟨hv, hm⟩]
      intro b hb
      cases hb
    · have hr := run_append_nil (P := P) w t ty e i z ht hi hz a m c news hl hnews (by omega) (by omega) (by rw [hby]; have hb := hbytes; simp only [Nat.zero_add] at hb; omega)
      rw [← hv, hrun] at hr
      injection hr with hr1 hr2
      subst hr1
      intro b hb
      simp only [Value.ownBlock, Option.some.injEq] at hb
      exact .inr hb.symm
  · by_cases hroom : n + m ≤ cap
    · have hfit : n * i.size + news.length ≤ cur.size := by rw [hl, hcs, ← Nat.add_mul]; exact Nat.mul_le_mul_right _ hroom
      have hr := run_append_room (P := P) w t ty e i ht hi g n cap cur hg a m c news hl hnews h1 hroom hfit
      rw [← hv, hrun] at hr
      injection hr with hr1 hr2
      subst hr1
      intro b hb
      refine .inl ?_
      rw [hv]
      exact hb
    · subst hv
      have hr := run_append_grow (P := P) w t ty e i z ht hi hz ⟨g, 0, none⟩ n cap xs hown.1 (hown.cells (g := g) rfl) a m c news hl hnews (by omega) (by omega) (by subst hby; exact growslice_fits (by omega) hbytes)
      rw [hrun] at hr
      injection hr with hr1 hr2
      subst hr1
      intro b hb
      simp only [Value.ownBlock, Option.some.injEq] at hb
      exact .inr hb.symm

theorem slice_of' {w : World} {base : Nat} {e : TypeId} {size : Nat} {v : Value} {n : Nat} {xs : List Value} (h : w.ownsRow base e size v n xs) : ∃ A c, v = .slice A n c := by
  rcases h.2 with ⟨rfl, rfl⟩ | ⟨g, cap, cur, rfl, _⟩
  · exact ⟨none, 0, rfl⟩
  · exact ⟨_, _, rfl⟩
theorem grown_free {w w1 : World} {row : Option Nat} {p : Addr} {v : Value} (hg : w.grownBy w1 row) (hc : w.cell? p = some v) (hne : some p.block ≠ row) (hf : w.frozen? p = false) : w1.frozen? p = false :=
  (World.frozen?_of_block (hg.block _ (World.block_lt_of_cell? _ _ hc) hne)).trans hf

/-- What an append onto a row leaves. -/
structure Appended (w w' : World) (base : Nat) (e : TypeId) (size : Nat) (v v' : Value) (n : Nat) (xs : List Value) : Prop where
  row : w'.ownsRow base e size v' n xs
  grown : w.grownBy w' v.ownBlock
  place : ∀ b, v'.ownBlock = some b → v.ownBlock = some b ∨ b = w.heap.size

/-- The same as one step of a region that draws. -/
theorem step_append_place {ops : Array Oper} {o : Oper} {a : Act} {w : World} {K : Act → World → Prop} {Q : Exit → Act → World → Prop} {E : Prop}
    (hg : o.guard = none) (s x : Operand) (t : TypeId) (hop : o.op = Op.call { callee := Callee.builtin Builtin.append, args := #[s, x], argTypes := #[t, t] })
    (base : Nat) (e : TypeId) (i : TypeInfo) (z : Value) (size bytes : Nat) (ht : P.underlying t = some (.slice e)) (hi : P.info? e = some i) (hz : i.zero = some z)
    (hsize : i.size = size) (hby : i.bytes = bytes) (hzs : z.cells.size = size) (hsz : 0 < size)
    (v : Value) (n : Nat) (xs : List Value) (hs : a.eval s = v) (hown : w.ownsRow base e size v n xs)
    (ad : Addr) (m c : Nat) (news : List Value) (hx : a.eval x = .slice (some ad) m c) (hl : news.length = m * size) (hnews : ∀ j u, news[j]? = some u → w.cell? (ad.add j) = some u) (h1 : ∀ u ∈ news, u.oneCell' = true)
    (h63 : n + m ≤ maxLen) (hbytes : (n + m) * bytes ≤ 140737488355328) (hbase : base ≤ w.heap.size)
    (p : Addr) (u : Value) (hcp : w.cell? p = some u) (hfp : w.frozen? p = false) (hne : some p.block ≠ v.ownBlock)
    (hK : ∀ A' c' w', Appended w w' base e size v (.slice A' (n + m) c') (n + m) (xs ++ news) → w'.cell? p = some u → w'.frozen? p = false → K (a.put o.dst (.slice A' (n + m) c')) w') :
    if Region.wanted o (yielded ops a.tmps) = true then Oper.wp P o a w K Q else E := by
  have hw : Region.wanted o (yielded ops a.tmps) = true := by simp [Region.wanted, hg]
  rw [if_pos hw]
  obtain ⟨v', w', hrun, h2, h3, h4⟩ := run_append_place (P := P) w base t o.type e i z size bytes ht hi hz hsize hby hzs hsz v n xs hown ad m c news hl hnews h1 h63 hbytes hbase
  unfold Oper.wp
  simp only [execOp, hop, resolve, invoke, builtin, Sem.run_bind, Sem.run_pure, Result.andThen_ok, List.map_toArray, List.map_cons, List.map_nil, hs, hx, hrun]
  obtain ⟨A', c', rfl⟩ := slice_of' h2
  exact hK A' c' w' ⟨h2, h3, h4⟩ (h3.cell hcp hne) (grown_free h3 hcp hne hfp)
/-- The same as one operation of a list. -/
theorem wpList_append_place {ops : Array Oper} {rest : List Oper} {o : Oper} {a : Act} {w : World} {Q : Exit → Act → World → Prop} (hgd : o.guard = none) (s x : Operand) (t : TypeId)
    (ho : o.op = .call { callee := .builtin .append, args := #[s, x], argTypes := #[t, t] })
    (base : Nat) (e : TypeId) (i : TypeInfo) (z : Value) (size bytes : Nat) (ht : P.underlying t = some (.slice e)) (hi : P.info? e = some i) (hz : i.zero = some z)
    (hsize : i.size = size) (hby : i.bytes = bytes) (hzs : z.cells.size = size) (hsz : 0 < size)
    (v : Value) (n : Nat) (xs : List Value) (hs : a.eval s = v) (hown : w.ownsRow base e size v n xs)
    (ad : Addr) (m c : Nat) (news : List Value) (hx : a.eval x = .slice (some ad) m c) (hl : news.length = m * size) (hnews : ∀ j u, news[j]? = some u → w.cell? (ad.add j) = some u) (h1 : ∀ u ∈ news, u.oneCell' = true)
    (h63 : n + m ≤ maxLen) (hbytes : (n + m) * bytes ≤ 140737488355328) (hbase : base ≤ w.heap.size)
    (hK : ∀ A' c' w', Appended w w' base e size v (.slice A' (n + m) c') (n + m) (xs ++ news) → wpList P ops Q rest (a.put o.dst (.slice A' (n + m) c')) w') : wpList P ops Q (o :: rest) a w := by
  obtain ⟨v', w', hrun, h2, h3, h4⟩ := run_append_place (P := P) w base t o.type e i z size bytes ht hi hz hsize hby hzs hsz v n xs hown ad m c news hl hnews h1 h63 hbytes hbase
  unfold wpList
  rw [if_pos (show Region.wanted o (yielded ops a.tmps) = true by simp [Region.wanted, hgd])]
  left
  unfold Oper.wp execOp
  simp only [ho, resolve, invoke, builtin, Sem.run_bind, Sem.run_pure, Result.andThen_ok, List.map_toArray, List.map_cons, List.map_nil, hs, hx, hrun]
  obtain ⟨A', c', rfl⟩ := slice_of' h2
  exact hK A' c' w' ⟨h2, h3, h4⟩
end Go
end

/- The contracts of the library functions stand in the shelf. -/
section

end

/- The contracts of strings.Clone, Fresh and Intern. -/
section
namespace Go.Proofs.YtlibdhnlmekmhaaGreatDoor.Nt
set_option maxRecDepth 100000
open Go.RowKit Go.Lib Go.Shelf
open Go.Proofs.YtlibdhnlmekmhaaGreatDoor.Own Go.Proofs.YtlibdhnlmekmhaaGreatDoor.Strs

theorem clone_any (s : ByteArray) (w : World) (hs : s.size ≤ 281474976710656) : Calls Tryz.prog 207 #[.string s] w fun e w' => e = .returned (.string s) ∧ Below w.heap.size w w' := by
  have hC : Calls Tryz.prog 227 #[.string s] w _ := AnyPu.stringslite_Clone Tryz.laysClone s w hs
  have HC := Lib.hid hC
  clear hC
  go_enter Tryz.func207, Tryz.ntmps207
  go_wp2_with (go_at_call 227; refine HC.out.mono ?_; rintro e w' ⟨rfl, hb⟩)
  go_ret
  exact ⟨rfl, hb⟩

/-- What Fresh returns, and the table behind it. -/
def newSy (s : ByteArray) : Sy := ⟨s, (0, 0), false, []⟩
def freshO (t : Tb) (s : ByteArray) : Int × Int × Tb :=
  if validD s.data.toList = false then (0, 5, t) else if 1000 < lenL s.data.toList then (0, 4, t) else if 16384 ≤ t.syms.length then (0, 7, t)
  else (t.syms.length, 0, ⟨t.syms ++ [newSy s], t.find⟩)

theorem fresh_null (s : ByteArray) (w : World) : Calls Tryz.prog 187 #[.pointer none, .string s] w fun e w' => e = .returned (.tuple #[.int .i64 0, .int .i64 1]) ∧ w = w' := by
  have HV := Lib.hid valid_null
  go_enter Tryz.func187, Tryz.ntmps187
  go_wp2_with (go_at_call 75; refine (HV.out _).mono ?_; rintro e w' ⟨rfl, rfl⟩)
  go_ret2
  exact ⟨rfl, rfl⟩
set_option maxHeartbeats 1000000 in
theorem fresh_bad (tp mb : Nat) (s : ByteArray) (w : World) (c1 : w.cell? ⟨tp, 1, none⟩ = some (.map (some mb))) (hs : s.size ≤ 4611686018427387904) (hT : Tabs w) (hv : validD s.data.toList = false) :
    Calls Tryz.prog 187 #[tptr tp, .string s] w fun e w' => e = .returned (.tuple #[.int .i64 0, .int .i64 5]) ∧ Below w.heap.size w w' := by
  have HV := Lib.hid (valid_core tp mb w c1)
  have h1 := valid_any s w (by omega) hT
  rw [hv] at h1
  have H1 := Lib.hid h1
  clear h1 hv hT c1
  go_enter Tryz.func187, Tryz.ntmps187
  go_wp2_with (first
    | (go_at_call 75; refine HV.out.mono ?_; rintro e w' ⟨rfl, rfl⟩)
    | (go_at_call 162; refine H1.out.mono ?_; rintro e w' ⟨rfl, hb⟩))
  go_ret2
  exact ⟨rfl, hb⟩
set_option maxHeartbeats 1000000 in
theorem fresh_long (tp mb : Nat) (s : ByteArray) (w : World) (c1 : w.cell? ⟨tp, 1, none⟩ = some (.map (some mb))) (hs : s.size ≤ 4611686018427387904) (hT : Tabs w) (hv : validD s.data.toList = true) (n : Nat) (hn : lenL s.data.toList = n) (hl : 1000 < n) :
    Calls Tryz.prog 187 #[tptr tp, .string s] w fun e w' => e = .returned (.tuple #[.int .i64 0, .int .i64 4]) ∧ Below w.heap.size w w' := by
  have HV := Lib.hid (valid_core tp mb w c1)
  have h1 := valid_any s w (by omega) hT
  rw [hv] at h1
  have H1 := Lib.hid h1
  have h2 := fun w' (hb : Below w.heap.size w w') => len_any s w' (by omega) (hT.below hb)
  simp only [hn] at h2
  have H2 := Lib.hid h2
  have hz : (1000 : Int) < (n : Int) := by omega
  clear h1 hv hT c1 h2
  go_enter Tryz.func187, Tryz.ntmps187
  go_wp2_with (first
    | (go_at_call 75; refine HV.out.mono ?_; rintro e w' ⟨rfl, rfl⟩)
    | (go_at_call 162; refine H1.out.mono ?_; rintro e w1 ⟨rfl, hb⟩)
    | (go_at_call 200; refine (H2.out _ hb).mono ?_; rintro e w2 ⟨rfl, hb2⟩))
  go_ret2
  exact ⟨rfl, hb.trans (hb2.mono hb.size)⟩
set_option maxHeartbeats 1000000 in
theorem fresh_full (tp mb m cap : Nat) (A : Option Addr) (s : ByteArray) (w : World) (c0 : w.cell? ⟨tp, 0, none⟩ = some (.slice A m cap)) (c1 : w.cell? ⟨tp, 1, none⟩ = some (.map (some mb))) (hs : s.size ≤ 4611686018427387904) (hT : Tabs w) (hv : validD s.data.toList = true) (n : Nat) (hn : lenL s.data.toList = n) (hl : n ≤ 1000)
    (hm : 16384 ≤ m) :
    Calls Tryz.prog 187 #[tptr tp, .string s] w fun e w' => e = .returned (.tuple #[.int .i64 0, .int .i64 7]) ∧ Below w.heap.size w w' := by
  have HV := Lib.hid (valid_core tp mb w c1)
  have h1 := valid_any s w (by omega) hT
  rw [hv] at h1
  have H1 := Lib.hid h1
  have h2 := fun w' (hb : Below w.heap.size w w') => len_any s w' (by omega) (hT.below hb)
  simp only [hn] at h2
  have H2 := Lib.hid h2
  have hz : ¬ (1000 : Int) < (n : Int) := by omega
  have hz2 : (16384 : Int) ≤ (m : Int) := by omega
  have hc : ∀ W, Below w.heap.size w W → W.cell? ⟨tp, 0, none⟩ = some (.slice A m cap) := fun W hb => by rw [hb.cell (World.block_lt_of_cell? _ _ c0)]; exact c0
  have HC := Lib.hid hc
  clear h1 hv hT c1 c0 h2 hc
  go_enter Tryz.func187, Tryz.ntmps187
  go_wp2_with (first
    | (go_at_call 75; refine HV.out.mono ?_; rintro e w' ⟨rfl, rfl⟩)
    | (go_at_call 162; refine H1.out.mono ?_; rintro e w1 ⟨rfl, hb⟩)
    | (go_at_call 200; refine (H2.out _ hb).mono ?_; rintro e w2 ⟨rfl, hb2⟩; have hbb := hb.trans (hb2.mono hb.size); have c2 := HC.out _ hbb))
  go_ret2
  exact ⟨rfl, hbb⟩

theorem sym_info : (Tryz.prog.info? 187).map (fun i => (i.zero, i.size, i.bytes)) = some (some (.agg #[.string ⟨#[]⟩, .int .i64 0, .int .i64 0, .bool false, .slice none 0 0]), 5, 64) := by kernel_rfl
/-- The cells of a symbol that was built. -/
theorem sy_new (w : World) (s : ByteArray) : ∀ j u, (syCells (newSy s) (.slice none 0 0))[j]? = some u → (w.alloc (.cells #[.string s, .int .i64 0, .int .i64 0, .bool false, .slice none 0 0] 187)).cell? ((⟨w.heap.size, 0, none⟩ : Addr).add j) = some u := by
  intro j u hj
  have h := Blk.new w #[.string s, .int .i64 0, .int .i64 0, .bool false, .slice none 0 0] 187
  rcases j with _ | _ | _ | _ | _ | j
  · simp [syCells, newSy] at hj; subst hj; exact h.cell 0 _ rfl
  · simp [syCells, newSy] at hj; subst hj; exact h.cell 1 _ rfl
  · simp [syCells, newSy] at hj; subst hj; exact h.cell 2 _ rfl
  · simp [syCells, newSy] at hj; subst hj; exact h.cell 3 _ rfl
  · simp [syCells, newSy] at hj; subst hj; exact h.cell 4 _ rfl
  · simp [syCells] at hj

/-- What Fresh leaves where it makes a symbol. -/
structure FreshEnd (w w' : World) (base tp m : Nat) (sv sv' mv : Value) (xs : List Value) (s : ByteArray) : Prop where
  blk : Blk w' tp #[sv', mv] 109
  row : w'.ownsRow base 187 5 sv' (m + 1) (xs ++ syCells (newSy s) (.slice none 0 0))
  keeps : Keeps (fun b => b = tp ∨ sv.ownBlock = some b) w w'
  place : ∀ b, sv'.ownBlock = some b → sv.ownBlock = some b ∨ w.heap.size ≤ b

theorem keeps_pushN {w W w1 : World} {o : Obj} {row : Option Nat} (hg : W.grownBy w1 row) (h1 : W.heap = (w.alloc o).heap) (h2 : W.os = w.os) (h3 : W.tape = w.tape) (h4 : W.output = w.output) : Keeps (fun b => row = some b) w w1 :=
  ⟨hg.os.trans h2, hg.tape.trans h3, hg.output.trans h4, by have := hg.size; rw [h1] at this; simp at this; omega, fun k hk hn => by
    have hs : W.heap.size = w.heap.size + 1 := by rw [h1]; simp
    rw [hg.block k (by omega) fun e => hn e.symm, h1]
    exact Below.heap_alloc _ _ _ hk⟩
theorem fresh_fin {w w9 w10 : World} {base tp m c' : Nat} {A' : Option Addr} {o : Obj} {sv mv : Value} {xs : List Value} {s : ByteArray} (hB : Blk w tp #[sv, mv] 109) (hne : sv.ownBlock ≠ some tp) (hb : Below w.heap.size w w9) (_hv : ∀ b, sv.ownBlock = some b → b < w.heap.size)
    (hap : Appended (w9.alloc o) w10 base 187 5 sv (.slice A' (m + 1) c') (m + 1) (xs ++ syCells (newSy s) (.slice none 0 0))) :
    FreshEnd w (w10.setCell ⟨tp, 0, none⟩ (.slice A' (m + 1) c')) base tp m sv (.slice A' (m + 1) c') mv xs s := by
  have hk : Keeps (fun b => sv.ownBlock = some b) w w10 := (Keeps.of_below hb).trans (keeps_pushN (w := w9) (o := o) hap.grown rfl rfl rfl rfl)
  have hpl : ∀ b, (Value.slice A' (m + 1) c').ownBlock = some b → sv.ownBlock = some b ∨ w.heap.size ≤ b := fun b e => by
    rcases hap.place b e with h | h
    · exact .inl h
    · exact .inr (by subst h; have := hb.size; simp; omega)
  have hB1 := hB.keeps hk hne
  have hne2 : (Value.slice A' (m + 1) c').ownBlock ≠ some tp := fun e => by
    rcases hpl tp e with h | h
    · exact hne h
    · have := hB.lt; omega
  exact ⟨hB1.set 0 _, owns_keeps hap.row ((Keeps.refl (fun b => b = tp) w10).setCell ⟨tp, 0, none⟩ _ fun _ => rfl) fun b hb e => hne2 (e ▸ hb), (hk.mono fun b _ e => .inr e).setCell ⟨tp, 0, none⟩ _ fun _ => .inl rfl, hpl⟩

set_option maxHeartbeats 4000000 in
theorem fresh_new (base tp mb m cap : Nat) (A : Option Addr) (xs : List Value) (s : ByteArray) (w : World) (hB : Blk w tp #[.slice A m cap, .map (some mb)] 109) (hown : w.ownsRow base 187 5 (.slice A m cap) m xs) (hb0 : base ≤ w.heap.size)
    (hne : (Value.slice A m cap).ownBlock ≠ some tp) (hs : s.size ≤ 281474976710656) (hT : Tabs w) (hv : validD s.data.toList = true) (n : Nat) (hn : lenL s.data.toList = n) (hl : n ≤ 1000) (hm : m < 16384) :
    Calls Tryz.prog 187 #[tptr tp, .string s] w fun e w' => e = .returned (.tuple #[.int .i64 (m : Int), .int .i64 0]) ∧ ∃ sv', FreshEnd w w' base tp m (.slice A m cap) sv' (.map (some mb)) xs s := by
  obtain ⟨i0, hi, hz0, hz1, hz2⟩ := info_parts sym_info
  have HI := Lib.hid hi
  have HZ0 := Lib.hid hz0
  have HZ1 := Lib.hid hz1
  have HZ2 := Lib.hid hz2
  have HV := Lib.hid (valid_core tp mb w (hB.cell 1 _ rfl))
  have h1 := valid_any s w (by omega) hT
  rw [hv] at h1
  have H1 := Lib.hid h1
  have h2 := fun w' (hb : Below w.heap.size w w') => len_any s w' (by omega) (hT.below hb)
  simp only [hn] at h2
  have H2 := Lib.hid h2
  have hz : ¬ (1000 : Int) < (n : Int) := by omega
  have hzz2 : ¬ (16384 : Int) ≤ (m : Int) := by omega
  have HB := Lib.hid hB
  have HOw := Lib.hid hown
  have HNe := Lib.hid hne
  have HCl := Lib.hid (fun w => clone_any s w hs)
  clear h1 hv hT h2 hB hown hne hi hz0 hz1 hz2
  go_enter Tryz.func187, Tryz.ntmps187
  go_wp2_with (first
    | (go_at_call 75; refine HV.out.mono ?_; rintro e w' ⟨rfl, rfl⟩)
    | (go_at_call 162; refine H1.out.mono ?_; rintro e w1 ⟨rfl, hb⟩)
    | (go_at_call 200; refine (H2.out _ hb).mono ?_; rintro e w2 ⟨rfl, hb2⟩; have hbb := hb.trans (hb2.mono hb.size); have c2 := (HB.out.below hbb).cell 0 _ rfl))
  have HBB := Lib.hid hbb
  have HBs := Lib.hid hbb.size
  clear hb hb2 hbb
  go_region_law ((first
    | (have tok9 := HC9; clear tok9; refine step_append_place rfl (.tmp 29) (.tmp 33) 106 rfl base 187 i0 (.agg #[.string ⟨#[]⟩, .int .i64 0, .int .i64 0, .bool false, .slice none 0 0]) 5 64 Tryz.underlying106 HI.out HZ0.out HZ1.out HZ2.out rfl (by decide) (.slice A m cap) m xs rfl (by exact (owns_below HOw.out HC9.out).alloc _) ⟨_, 0, none⟩ 1 1 (syCells (newSy s) (.slice none 0 0)) (by rfl) rfl (sy_new _ s) (syCells_one _ _ _ _) (by unfold maxLen; omega) (by omega) (by have := HC9.out.size; simp; omega) ⟨tp, 0, none⟩ (.slice A m cap) (((HB.out.below HC9.out).alloc _).cell 0 _ rfl) (((HB.out.below HC9.out).alloc _).free 0) (fun e => HNe.out e.symm) ?_; intro A' c' w10 hap hcp hfp; have HAp := Lib.hid hap; clear hap)
    | (go_simp; go_at_call 207; refine (HCl.out _).mono ?_; rintro e w9 ⟨rfl, hb9⟩; have HC9 := Lib.hid (HBB.out.trans ((Below.refl _ _).drew.trans hb9 |>.mono HBs.out)); have c9 := (HB.out.below HC9.out).cell 0 _ rfl; have c10 := more c9; clear hb9)))
  all_goals (
    go_wp2_with fail
    go_ret2
    exact ⟨rfl, _, fresh_fin HB.out HNe.out HC9.out (fun b e => (HOw.out.lt b e).2) HAp.out⟩)

/-- The labels behind Fresh. -/
def labS (n : Nat) (v : Value) (lab : Nat → Option TLab) (b : Nat) : Option TLab := if n ≤ b then (if v.ownBlock = some b then some .syms else none) else lab b

/-- A valid string of few characters is short. -/
theorem decodeL_le4 (l : List UInt8) : (decodeL l).2 ≤ 4 := by
  rw [decodeL_N]
  unfold decodeN
  repeat' split
  all_goals (first | omega | simp)
theorem runes_ge : ∀ (n : Nat) (l : List UInt8), l.length ≤ n → l.length ≤ 4 * (Utf.runes l).length
  | 0, l, h => by omega
  | n + 1, l, h => by
    by_cases hne : l = []
    · subst hne; simp
    · rw [Utf.runes_step l hne, List.length_cons]
      have h1 := decodeL_le4 l
      have h2 := decodeL_width l
      have h3 : 0 < l.length := List.length_pos_iff.2 hne
      have h4 := runes_ge n (l.drop (decodeL l).2) (by rw [List.length_drop]; omega)
      rw [List.length_drop] at h4
      omega
theorem short_of_len (s : ByteArray) (hv : validD s.data.toList = true) (h : lenL s.data.toList ≤ 1000) : s.size ≤ 4000 := by
  unfold lenL at h
  rw [if_pos hv] at h
  have := runes_ge _ s.data.toList (Nat.le_refl _)
  have e : s.size = s.data.toList.length := by simp
  omega

/-- What Fresh leaves; the map bears no more names than before. -/
def FreshOk (w w' : World) (base tp : Nat) (t' : Tb) (lab : Nat → Option TLab) (m : Nat) : Prop := ∃ lab' P', TabIs w' base tp t' lab' P' ∧ TAfter w w' lab lab' ∧ MapIs w' P'.mb t'.find m
theorem FreshOk.ok {w w' : World} {base tp m : Nat} {t' : Tb} {lab : Nat → Option TLab} (h : FreshOk w w' base tp t' lab m) : TabOk w w' base tp t' lab := by
  obtain ⟨lab', P', h1, h2, _⟩ := h
  exact ⟨lab', P', h1, h2⟩
theorem freshEnd_tab {w w' : World} {base tp : Nat} {t : Tb} {lab : Nat → Option TLab} {P : TParts} {sv' : Value} {s : ByteArray} (h : TabIs w base tp t lab P) (_hb0 : base ≤ w.heap.size) (hm : t.syms.length < 16384) (hs : s.size ≤ 281474976710656)
    (hf : FreshEnd w w' base tp t.syms.length P.sv sv' (.map (some P.mb)) (scells t.syms P.ps 0) s) : FreshOk w w' base tp ⟨t.syms ++ [newSy s], t.find⟩ lab t.syms.length := by
  have hk := hf.keeps
  have hF : ∀ b, (b = tp ∨ P.sv.ownBlock = some b) → lab b = some .hdr ∨ lab b = some .syms := fun b e => by
    rcases e with e | e
    · subst e; exact .inl h.hdr
    · exact .inr (h.slab b e)
  have hn1 : ∀ b, lab b = some .map → ¬ (b = tp ∨ P.sv.ownBlock = some b) := fun b hl e => by rcases hF b e with e | e <;> rw [hl] at e <;> cases e
  have hn2 : ∀ b i, lab b = some (.props i) → ¬ (b = tp ∨ P.sv.ownBlock = some b) := fun b i hl e => by rcases hF b e with e | e <;> rw [hl] at e <;> cases e
  have hold : ∀ b l, lab b = some l → labS w.heap.size sv' lab b = some l := fun b l hl => by
    unfold labS
    rw [if_neg (by have := (h.inb b l hl).2; omega)]
    exact hl
  refine ⟨labS w.heap.size sv' lab, ⟨sv', P.mb, P.ps⟩, ?_, ⟨hk.mono fun b _ e => ?_, fun b hb => ?_⟩, h.map.keeps hk (hn1 _ h.mlab)⟩
  · exact {
      inb := fun b l hl => by
        unfold labS at hl
        split at hl
        · split at hl
          · rename_i e
            exact hf.row.lt b e
          · cases hl
        · exact ⟨(h.inb b l hl).1, Nat.lt_of_lt_of_le (h.inb b l hl).2 hk.size⟩
      hdr := hold _ _ h.hdr
      blk := hf.blk
      mlab := hold _ _ h.mlab
      map := (h.map.keeps hk (hn1 _ h.mlab)).mono (by simp)
      syms := by
        have := hf.row
        rw [scells_append, Nat.zero_add, h.tail _ (Nat.le_refl _), List.length_append]
        exact this
      slab := fun k e => by
        rcases hf.place k e with e2 | e2
        · exact hold _ _ (h.slab k e2)
        · unfold labS
          rw [if_pos e2, if_pos e]
      props := fun i y hy => by
        by_cases hi : i < t.syms.length
        · rw [List.getElem?_append_left hi] at hy
          exact owns_keeps (h.props i y hy) hk fun k hv => hn2 _ _ (h.plab i k hv)
        · rw [List.getElem?_append_right (by omega)] at hy
          have hi2 : i - t.syms.length = 0 := by
            have := (List.getElem?_eq_some_iff.1 hy).1
            simp at this
            omega
          rw [hi2] at hy
          simp at hy
          subst hy
          rw [h.tail i (by omega)]
          exact ⟨rfl, .inl ⟨rfl, rfl⟩⟩
      plab := fun i k e => hold _ _ (h.plab i k e)
      tail := fun i hi => h.tail i (by simp at hi; omega)
      many := by simp; omega
      pmany := fun i y hy => by
        by_cases hi : i < t.syms.length
        · rw [List.getElem?_append_left hi] at hy
          exact h.pmany i y hy
        · rw [List.getElem?_append_right (by omega)] at hy
          have := List.mem_of_getElem? hy
          simp at this
          subst this
          simp [newSy]
      small := fun i y hy => by
        by_cases hi : i < t.syms.length
        · rw [List.getElem?_append_left hi] at hy
          exact h.small i y hy
        · rw [List.getElem?_append_right (by omega)] at hy
          have := List.mem_of_getElem? hy
          simp at this
          subst this
          simp [newSy]
          omega
      found := fun u n hu => by
        obtain ⟨y, hy, hyn⟩ := h.found u n hu
        exact ⟨y, by rw [List.getElem?_append_left (List.getElem?_eq_some_iff.1 hy).1]; exact hy, hyn⟩
      sorted := fun i y hy => by
        by_cases hi : i < t.syms.length
        · rw [List.getElem?_append_left hi] at hy
          exact h.sorted i y hy
        · rw [List.getElem?_append_right (by omega)] at hy
          have := List.mem_of_getElem? hy
          simp at this
          subst this
          exact List.Pairwise.nil }
  · unfold TOf
    rcases hF b e with e | e <;> rw [e] <;> simp
  · unfold TOf labS at hb
    split at hb
    · right; assumption
    · exact .inl hb

/-- The contract of Fresh. -/
theorem fresh_any {w : World} {base tp : Nat} {t : Tb} {lab : Nat → Option TLab} {P : TParts} (h : TabIs w base tp t lab P) (hb : base ≤ w.heap.size) (s : ByteArray) (hs : s.size ≤ 4611686018427387904) (hT : Tabs w) :
    Calls Tryz.prog 187 #[tptr tp, .string s] w fun e w' => e = .returned (.tuple #[.int .i64 (freshO t s).1, .int .i64 (freshO t s).2.1]) ∧ FreshOk w w' base tp (freshO t s).2.2 lab t.syms.length := by
  have hsame : ∀ w', Below w.heap.size w w' → FreshOk w w' base tp t lab t.syms.length := fun w' hb => ⟨lab, P, h.below hb, .below hb, (h.below hb).map⟩
  have h2 := h.two
  unfold freshO
  cases hv : validD s.data.toList with
  | false =>
    rw [if_pos rfl]
    exact (fresh_bad tp P.mb s w h2.2 hs hT hv).mono fun e w' ⟨he, hb⟩ => ⟨he, hsame w' hb⟩
  | true =>
    rw [if_neg (by simp)]
    by_cases hl : 1000 < lenL s.data.toList
    · rw [if_pos hl]
      exact (fresh_long tp P.mb s w h2.2 hs hT hv _ rfl hl).mono fun e w' ⟨he, hb⟩ => ⟨he, hsame w' hb⟩
    · rw [if_neg hl]
      obtain ⟨A, cap, hsv⟩ := h.sl
      by_cases hm : 16384 ≤ t.syms.length
      · rw [if_pos hm]
        exact (fresh_full tp P.mb _ cap A s w (by rw [← hsv]; exact h2.1) h2.2 hs hT hv _ rfl (by omega) hm).mono fun e w' ⟨he, hb⟩ => ⟨he, hsame w' hb⟩
      · rw [if_neg hm]
        have hs2 : s.size ≤ 281474976710656 := Nat.le_trans (short_of_len s hv (by omega)) (by omega)
        have hne : (Value.slice A t.syms.length cap).ownBlock ≠ some tp := fun e => by
          have := h.slab tp (by rw [hsv]; exact e)
          rw [h.hdr] at this
          cases this
        refine (fresh_new base tp P.mb t.syms.length cap A (scells t.syms P.ps 0) s w (by rw [← hsv]; exact h.blk) (by rw [← hsv]; exact h.syms) hb hne hs2 hT hv _ rfl (by omega) (by omega)).mono ?_
        rintro e w' ⟨he, sv', hf⟩
        rw [← hsv] at hf
        exact ⟨he, freshEnd_tab h hb (by omega) hs2 hf⟩
end Go.Proofs.YtlibdhnlmekmhaaGreatDoor.Nt
end

/- The contract of Intern. -/
section
namespace Go.Proofs.YtlibdhnlmekmhaaGreatDoor.Nt
set_option maxRecDepth 100000
open Go.RowKit Go.Lib Go.Shelf
open Go.Proofs.YtlibdhnlmekmhaaGreatDoor.Own Go.Proofs.YtlibdhnlmekmhaaGreatDoor.Strs

/-- What Intern returns, and the table behind it. -/
def internO (t : Tb) (s : ByteArray) : Int × Int × Tb :=
  match t.find s with
  | some n => ((n : Int), 0, t)
  | none => if (freshO t s).2.1 = 0 then (t.syms.length, 0, ⟨t.syms ++ [newSy s], upd t.find s t.syms.length⟩) else (0, (freshO t s).2.1, t)

theorem freshO_ok {t : Tb} {s : ByteArray} (h : (freshO t s).2.1 = 0) : freshO t s = ((t.syms.length : Int), 0, ⟨t.syms ++ [newSy s], t.find⟩) ∧ validD s.data.toList = true ∧ lenL s.data.toList ≤ 1000 ∧ t.syms.length < 16384 := by
  unfold freshO at h ⊢
  split at h
  · cases h
  · rename_i hv
    split at h
    · cases h
    · split at h
      · cases h
      · rename_i h1 h2
        rw [if_neg hv, if_neg h1, if_neg h2]
        exact ⟨rfl, by simpa using hv, by omega, by omega⟩
theorem freshO_err {t : Tb} {s : ByteArray} (h : (freshO t s).2.1 ≠ 0) : (freshO t s).1 = 0 ∧ (freshO t s).2.2 = t := by
  unfold freshO at h ⊢
  split
  · exact ⟨rfl, rfl⟩
  · split
    · exact ⟨rfl, rfl⟩
    · split
      · exact ⟨rfl, rfl⟩
      · rename_i h1 h2 h3
        rw [if_neg h1, if_neg h2, if_neg h3] at h
        exact absurd rfl h

/-- The table behind a store into its map. -/
theorem TabIs.stored {w w' : World} {base tp n m : Nat} {t : Tb} {lab : Nat → Option TLab} {P : TParts} {s : ByteArray} {y : Sy} (h : TabIs w base tp t lab P) (hk : Keeps (fun b => b = P.mb) w w') (hm : MapIs w' P.mb (upd t.find s n) m) (hle : m ≤ t.syms.length) (hy : t.syms[n]? = some y) (hn : y.name = s) :
    TabOk w w' base tp ⟨t.syms, upd t.find s n⟩ lab := by
  have hF : ∀ b k, lab b = some k → k ≠ .map → ¬ (b = P.mb) := fun b k hl hne e => by
    subst e
    rw [h.mlab] at hl
    cases hl
    exact hne rfl
  refine ⟨lab, P, { h with
    inb := fun b l hl => ⟨(h.inb b l hl).1, Nat.lt_of_lt_of_le (h.inb b l hl).2 hk.size⟩
    blk := h.blk.keeps hk (hF _ _ h.hdr (by simp))
    map := hm.mono hle
    syms := owns_keeps h.syms hk fun k hv => hF _ _ (h.slab k hv) (by simp)
    props := fun i s hs => owns_keeps (h.props i s hs) hk fun k hv => hF _ _ (h.plab i k hv) (by simp)
    found := fun u k hu => ?_ }, ⟨hk.mono fun b _ e => ?_, fun b hb => .inl hb⟩⟩
  · simp only [upd] at hu
    split at hu
    · rename_i e
      cases hu
      exact ⟨y, hy, by rw [e, hn]⟩
    · exact h.found u k hu
  · subst e
    unfold TOf
    rw [h.mlab]
    simp

theorem intern_null (s : ByteArray) (w : World) : Calls Tryz.prog 147 #[.pointer none, .string s] w fun e w' => e = .returned (.tuple #[.int .i64 0, .int .i64 1]) ∧ w = w' := by
  have HV := Lib.hid (find_null s)
  have HW := Lib.hid (fresh_null s)
  go_enter Tryz.func147, Tryz.ntmps147
  go_wp2_with (first
    | (go_at_call 186; refine (HV.out _).mono ?_; rintro e w' ⟨rfl, rfl⟩)
    | (go_at_call 187; refine (HW.out _).mono ?_; rintro e w' ⟨rfl, rfl⟩))
  go_ret2
  exact ⟨rfl, rfl⟩
set_option maxHeartbeats 1000000 in
theorem intern_hit {w : World} {base tp : Nat} {t : Tb} {lab : Nat → Option TLab} {P : TParts} (h : TabIs w base tp t lab P) (s : ByteArray) (hs : s.size ≤ maxLen) (n : Nat) (hf : t.find s = some n) :
    Calls Tryz.prog 147 #[tptr tp, .string s] w fun e w' => e = .returned (.tuple #[.int .i64 (n : Int), .int .i64 0]) ∧ w = w' := by
  have h1 := find_any h s hs
  rw [hf] at h1
  have H1 := Lib.hid h1
  clear h1 h
  go_enter Tryz.func147, Tryz.ntmps147
  go_wp2_with (first
    | (go_at_call 186; refine H1.out.mono ?_; rintro e w' ⟨rfl, rfl⟩))
  go_ret2
  exact ⟨by simp, rfl⟩
set_option maxHeartbeats 1000000 in
theorem intern_err {w : World} {base tp : Nat} {t : Tb} {lab : Nat → Option TLab} {P : TParts} (h : TabIs w base tp t lab P) (hb : base ≤ w.heap.size) (s : ByteArray) (hs : s.size ≤ 4611686018427387904) (hT : Tabs w) (hf : t.find s = none) (hc : (freshO t s).2.1 ≠ 0) :
    Calls Tryz.prog 147 #[tptr tp, .string s] w fun e w' => e = .returned (.tuple #[.int .i64 0, .int .i64 (freshO t s).2.1]) ∧ TabOk w w' base tp t lab := by
  have h1 := find_any h s (by unfold maxLen; omega)
  rw [hf] at h1
  have h2 := fresh_any h hb s hs hT
  obtain ⟨e1, e2⟩ := freshO_err hc
  rw [e1, e2] at h2
  generalize (freshO t s).2.1 = c at *
  have H1 := Lib.hid h1
  have H2 := Lib.hid h2
  have hd : (c != 0) = true := by simpa using hc
  clear h1 h h2 hc e1 e2
  go_enter Tryz.func147, Tryz.ntmps147
  go_wp2_with (first
    | (go_at_call 186; refine H1.out.mono ?_; rintro e w' ⟨rfl, rfl⟩)
    | (go_at_call 187; refine H2.out.mono ?_; rintro e w2 ⟨rfl, h2⟩))
  go_ret2
  exact ⟨rfl, h2.ok⟩
set_option maxHeartbeats 2000000 in
theorem intern_new {w : World} {base tp : Nat} {t : Tb} {lab : Nat → Option TLab} {P : TParts} (h : TabIs w base tp t lab P) (hb : base ≤ w.heap.size) (s : ByteArray) (hs : s.size ≤ 4611686018427387904) (hT : Tabs w) (hf : t.find s = none) (hc : (freshO t s).2.1 = 0) :
    Calls Tryz.prog 147 #[tptr tp, .string s] w fun e w' => e = .returned (.tuple #[.int .i64 (t.syms.length : Int), .int .i64 0]) ∧ TabOk w w' base tp ⟨t.syms ++ [newSy s], upd t.find s t.syms.length⟩ lab := by
  have h1 := find_any h s (by unfold maxLen; omega)
  rw [hf] at h1
  have h2 := fresh_any h hb s hs hT
  obtain ⟨e1, hv, hl, hm⟩ := freshO_ok hc
  rw [e1] at h2
  obtain ⟨m, hme⟩ : ∃ m, t.syms.length = m := ⟨_, rfl⟩
  rw [hme] at h2
  have H1 := Lib.hid h1
  have H2 := Lib.hid h2
  have HM := Lib.hid hme
  rw [hme] at hm ⊢
  clear h1 h h2 hc e1 hf hv hl hme
  go_enter Tryz.func147, Tryz.ntmps147
  go_wp2_with (first
    | (go_at_call 186; refine H1.out.mono ?_; rintro e w' ⟨rfl, rfl⟩)
    | (go_at_call 187; refine H2.out.mono ?_; rintro e w2 ⟨rfl, lab2, P2, hI2, hA2, hm2⟩))
  have hy : (t.syms ++ [newSy s])[m]? = some (newSy s) := by rw [← HM.out]; simp
  obtain ⟨g, cap, hv, hg, hr⟩ := hI2.symRow m (newSy s) hy
  obtain ⟨c2', _⟩ := sy_cells hr m (newSy s) hy
  obtain ⟨c0', c1⟩ := hI2.two
  rw [hv] at c0'
  have hlen : (t.syms ++ [newSy s]).length = m + 1 := by rw [List.length_append, HM.out]; rfl
  have e0 : (Value.slice (some ⟨g, 0, none⟩) (t.syms ++ [newSy s]).length cap) = .slice (some ⟨g, 0, none⟩) (m + 1) cap := by rw [hlen]
  have c0 := c0'.trans (congrArg some e0)
  have c2 : w2.cell? ⟨g, m * 5, none⟩ = some (.string s) := c2'
  clear c0' c2'
  obtain ⟨w3, hrun, hm3, hg3⟩ := (show MapIs w2.drew P2.mb t.find m from hm2).store (by unfold maxLen; omega) s (by unfold maxLen; omega) m (by omega)
  have hk3 : Keeps (fun b => b = P2.mb) w2 w3 := (Keeps.refl _ w2).trans ((Keeps.of_below (show Below w2.heap.size w2 w2.drew from ⟨rfl, rfl, rfl, Nat.le_refl _, fun _ _ => rfl⟩)).trans (keeps_of_grown hg3))
  obtain ⟨lab3, P3, hI3, hA3⟩ := hI2.stored hk3 hm3 (by rw [hlen]; omega) hy rfl
  have HF := Lib.hid (show TabOk w w3 base tp ⟨t.syms ++ [newSy s], upd t.find s m⟩ lab from ⟨lab3, P3, hI3, hA2.trans hA3⟩)
  clear hI2 hA2 hm2 hr hm3 hg3 hk3 hI3 hA3 hg
  have hmz : (m : Int) < (m : Int) + 1 := by omega
  have hmz2 : m < m + 1 := by omega
  go_region_law ((refine step_mapUpdate (w := w2.drew) rfl (.tmp 30) (.tmp 38) (.tmp 39) 107 rfl (.map (some P2.mb)) (.string s) (.int .i64 (m : Int)) rfl rfl rfl w3 hrun ?_))
  all_goals (
    go_wp2_with fail
    go_ret2
    exact ⟨rfl, HF.out⟩)

/-- The contract of Intern. -/
theorem intern_any {w : World} {base tp : Nat} {t : Tb} {lab : Nat → Option TLab} {P : TParts} (h : TabIs w base tp t lab P) (hb : base ≤ w.heap.size) (s : ByteArray) (hs : s.size ≤ 4611686018427387904) (hT : Tabs w) :
    Calls Tryz.prog 147 #[tptr tp, .string s] w fun e w' => e = .returned (.tuple #[.int .i64 (internO t s).1, .int .i64 (internO t s).2.1]) ∧ TabOk w w' base tp (internO t s).2.2 lab := by
  unfold internO
  cases hf : t.find s with
  | some n => exact (intern_hit h s (by unfold maxLen; omega) n hf).mono fun e w' ⟨he, hw⟩ => ⟨he, by subst hw; exact ⟨lab, P, h, .refl _ _⟩⟩
  | none =>
    simp only
    by_cases hc : (freshO t s).2.1 = 0
    · rw [if_pos hc]
      exact intern_new h hb s hs hT hf hc
    · rw [if_neg hc]
      exact intern_err h hb s hs hT hf hc
end Go.Proofs.YtlibdhnlmekmhaaGreatDoor.Nt
end
