/- A heap in memory behind an object put at a free number, and behind an object removed. | The contracts of the functions of package heap that only read: valid, kind, the sizes; what a type assertion on an object gives. | The contracts of (*Heap).find. | The contracts of (*Heap).find over a heap, and of get at each type of object. -/
import Derived.Test.YtlibdhnlmekmhaaGreatDoorRows
import Derived.WalkSpells
import Derived.WalkLawsBesides
import Derived.RegionTactic
import Derived.BigQuiet
import Derived.Deep.QuietTactic
import Derived.BigGuardPart
import Derived.LoopTactic
import Derived.Test.YtlibdhnlmekmhaaGreatDoorMh18
import Derived.Test.YtlibdhnlmekmhaaGreatDoorMh19
/- A heap in memory behind an object put at a free number, and behind an object removed. -/
section
namespace Go.Proofs.YtlibdhnlmekmhaaGreatDoor.Rep
set_option maxRecDepth 100000
open Go.RowKit
open Go.Proofs.YtlibdhnlmekmhaaGreatDoor.Own Go.Proofs.YtlibdhnlmekmhaaGreatDoor.Hp Go.Proofs.YtlibdhnlmekmhaaGreatDoor.HeapOrd Go.Proofs.YtlibdhnlmekmhaaGreatDoor.Nums

theorem HeapU.free_end {w : World} {base hp lim : Nat} {ob : Obs} {lab : Nat → Option Lab} {P : Parts} {u : Value} (h : HeapU w base hp lim ob lab P u) (hnf : P.nf = 0) (_hlt : freeTo ob lim < lim) : freeTo ob lim = P.m := by
  obtain ⟨h1, h2, h3⟩ := freeTo_spec ob lim
  apply freeTo_unique ob lim P.m h.m
  · intro i hi
    cases ho : ob i with
    | some o => rfl
    | none =>
      obtain ⟨k, hk, _⟩ := (h.holes i).2 ⟨hi, ho⟩
      omega
  · intro _
    exact h.out _ (Nat.le_refl _)
theorem HeapU.free_hole {w : World} {base hp lim : Nat} {ob : Obs} {lab : Nat → Option Lab} {P : Parts} {u : Value} (h : HeapU w base hp lim ob lab P u) (hnf : 0 < P.nf) : freeTo ob lim = P.f 0 ∧ P.f 0 < P.m ∧ ob (P.f 0) = none := by
  have h0 := (h.holes (P.f 0)).1 ⟨0, hnf, rfl⟩
  have hm := h.m
  refine ⟨freeTo_unique ob lim (P.f 0) (by omega) (fun i hi => ?_) fun _ => h0.2, h0⟩
  cases ho : ob i with
  | some o => rfl
  | none =>
    obtain ⟨k, hk, hki⟩ := (h.holes i).2 ⟨by omega, ho⟩
    have := h.ord.least k hk
    omega
theorem HeapU.notFull {w : World} {base hp lim : Nat} {ob : Obs} {lab : Nat → Option Lab} {P : Parts} {u : Value} (h : HeapU w base hp lim ob lab P u) (hlt : freeTo ob lim < lim) (hnf : P.nf = 0) : P.m < lim := by
  rw [← h.free_end hnf hlt]; exact hlt

theorem HeapU.placeHole {w w' : World} {base hp lim n g c go co : Nat} {ob : Obs} {lab : Nat → Option Lab} {P : Parts} {u v : Value} {o : Ob} {f' : Nat → Nat} (h : HeapU w base hp lim ob lab P u) (hn : P.nf = n + 1)
    (hov : P.ov = .slice (some ⟨go, 0, none⟩) P.m co) (hfv : P.fv = .slice (some ⟨g, 0, none⟩) (n + 1) c)
    (hB : Blk w' hp #[.int .i64 (lim : Int), .slice (some ⟨go, 0, none⟩) P.m co, .slice (some ⟨g, 0, none⟩) n c, u] 105)
    (hrow : w'.ownsRow base 148 1 (.slice (some ⟨go, 0, none⟩) P.m co) P.m (P.vals.set (P.f 0) v)) (hfree : w'.ownsRow base 3 1 (.slice (some ⟨g, 0, none⟩) n c) n (fcells n f'))
    (hk : Keeps (fun b => b = hp ∨ b = g ∨ b = go) w w') (hs : Sames (n + 1) P.f f') (hl : f' n = P.f 0) (hord : Ord f' n) (ho : ObAt w lab (P.f 0) v (some o)) (hsm : Small (some o)) :
    HeapU w' base hp lim (put ob (P.f 0) (some o)) lab { P with fv := .slice (some ⟨g, 0, none⟩) n c, nf := n, f := f', vals := P.vals.set (P.f 0) v } u := by
  obtain ⟨_, hf0, hfn⟩ := h.free_hole (by omega)
  have lo : lab go = some .objs := h.olab go (by rw [hov]; rfl)
  have lf : lab g = some .free := h.flab g (by rw [hfv]; rfl)
  have hkeep : ∀ i b l, lab b = some l → l.for = some i → ¬ (b = hp ∨ b = g ∨ b = go) := fun i b l hb hf e => by
    rcases e with e | e | e
    · subst e; rw [h.hdr] at hb; cases hb; cases hf
    · subst e; rw [lf] at hb; cases hb; cases hf
    · subst e; rw [lo] at hb; cases hb; cases hf
  have hlen : P.vals.length = P.m := by have := h.objs.1; omega
  have hinj : Inj f' (n + 1) := hs.inj (by have := h.inj; rwa [hn] at this)
  exact {
    lim1 := h.lim1
    lim2 := h.lim2
    inb := fun b l hb => ⟨(h.inb b l hb).1, Nat.lt_of_lt_of_le (h.inb b l hb).2 hk.size⟩
    hdr := h.hdr
    blk := by show Blk w' hp #[.int .i64 (lim : Int), P.ov, _, u] _; rw [hov]; exact hB
    m := h.m
    out := fun i hi => by
      have : P.m ≤ i := hi
      rw [put_other _ _ _ _ (by omega)]
      exact h.out i this
    objs := by show w'.ownsRow base _ 1 P.ov P.m _; rw [hov]; exact hrow
    olab := h.olab
    each := fun i hi => by
      have hi : i < P.m := hi
      by_cases hm : i = P.f 0
      · subst hm
        refine ⟨v, by simp [hlen, hi], ?_⟩
        rw [put_same]
        exact ho.keeps hk fun g k hg hf => ⟨hkeep _ g k hg hf, hg⟩
      · obtain ⟨v', hv', ho'⟩ := h.each i hi
        refine ⟨v', by rw [List.getElem?_set_ne (fun e => hm e.symm)]; exact hv', ?_⟩
        rw [put_other _ _ _ _ hm]
        exact ho'.keeps hk fun g k hg hf => ⟨hkeep _ g k hg hf, hg⟩
    small := fun i => by
      by_cases hm : i = P.f 0
      · subst hm; rw [put_same]; exact hsm
      · rw [put_other _ _ _ _ hm]; exact h.small i
    free := hfree
    flab := fun k hk => by
      simp only [Value.ownBlock, Option.some.injEq] at hk
      subst hk
      exact lf
    ord := hord
    inj := fun a b ha hb => hinj a b (by have : a < n := ha; omega) (by have : b < n := hb; omega)
    holes := fun x => by
      show (∃ k, k < n ∧ f' k = x) ↔ (x < P.m ∧ _)
      have hx := h.holes x
      rw [hn, ← hs.mem x] at hx
      constructor
      · rintro ⟨k, hk, hkx⟩
        have h1 := hx.1 ⟨k, by omega, hkx⟩
        have hne : x ≠ P.f 0 := fun e => by
          have := hinj k n (by omega) (by omega) (by rw [hkx, hl, e])
          omega
        rw [put_other _ _ _ _ hne]
        exact h1
      · rintro ⟨h1, h2⟩
        by_cases hne : x = P.f 0
        · subst hne; rw [put_same] at h2; cases h2
        · rw [put_other _ _ _ _ hne] at h2
          obtain ⟨k, hk, hkx⟩ := hx.2 ⟨h1, h2⟩
          refine ⟨k, ?_, hkx⟩
          rcases Nat.lt_or_ge k n with h3 | h3
          · exact h3
          · have : k = n := by omega
            subst this
            rw [hl] at hkx
            exact absurd hkx.symm hne }

/-- An object removed. -/
theorem HeapU.removed {w w' : World} {base hp lim n go co : Nat} {ob : Obs} {lab : Nat → Option Lab} {P : Parts} {u v' : Value} {o : Ob} {f' : Nat → Nat} (h : HeapU w base hp lim ob lab P u) (ho : ob n = some o)
    (hov : P.ov = .slice (some ⟨go, 0, none⟩) P.m co)
    (hB : Blk w' hp #[.int .i64 (lim : Int), .slice (some ⟨go, 0, none⟩) P.m co, v', u] 105)
    (hrow : w'.ownsRow base 148 1 (.slice (some ⟨go, 0, none⟩) P.m co) P.m (P.vals.set n .nilIface)) (hfree : w'.ownsRow base 3 1 v' (P.nf + 1) (fcells (P.nf + 1) f'))
    (hk : Keeps (fun b => b = hp ∨ b = go ∨ P.fv.ownBlock = some b) w w') (hpl : ∀ b, v'.ownBlock = some b → P.fv.ownBlock = some b ∨ w.heap.size ≤ b) (hs : Sames (P.nf + 1) (snoc P.f P.nf n) f') (hord : Ord f' (P.nf + 1)) :
    HeapU w' base hp lim (put ob n none) (fun b => if v'.ownBlock = some b then some .free else lab b) { P with fv := v', nf := P.nf + 1, f := f', vals := P.vals.set n .nilIface } u := by
  have hnm := h.has ho
  have lo : lab go = some .objs := h.olab go (by rw [hov]; rfl)
  have hl : ∀ b l, lab b = some l → l ≠ .free → v'.ownBlock ≠ some b := fun b l hb hne e => by
    rcases hpl b e with e | e
    · have := h.flab b e; rw [hb] at this; cases this; exact hne rfl
    · have := (h.inb b l hb).2; omega
  have hkeep : ∀ i b l, lab b = some l → l.for = some i → ¬ (b = hp ∨ b = go ∨ P.fv.ownBlock = some b) ∧ (if v'.ownBlock = some b then some Lab.free else lab b) = some l := fun i b l hb hf => by
    refine ⟨fun e => ?_, ?_⟩
    · rcases e with e | e | e
      · subst e; rw [h.hdr] at hb; cases hb; cases hf
      · subst e; rw [lo] at hb; cases hb; cases hf
      · have := h.flab b e; rw [hb] at this; cases this; cases hf
    · rw [if_neg (hl b l hb (fun e => by subst e; cases hf))]
      exact hb
  have hlen : P.vals.length = P.m := by have := h.objs.1; omega
  have hnot : ∀ k, k < P.nf → P.f k ≠ n := fun k hk e => by
    have := ((h.holes n).1 ⟨k, hk, e⟩).2
    rw [ho] at this; cases this
  have hinj : Inj (snoc P.f P.nf n) (P.nf + 1) := by
    intro a b ha hb hab
    unfold snoc at hab
    split at hab <;> split at hab
    · omega
    · exact absurd hab.symm (hnot b (by omega))
    · exact absurd hab (hnot a (by omega))
    · exact h.inj a b (by omega) (by omega) hab
  exact {
    lim1 := h.lim1
    lim2 := h.lim2
    inb := fun b l hb => by
      split at hb
      · rename_i e; exact hfree.lt b e
      · exact ⟨(h.inb b l hb).1, Nat.lt_of_lt_of_le (h.inb b l hb).2 hk.size⟩
    hdr := by
      show (if v'.ownBlock = some hp then some Lab.free else lab hp) = _
      rw [if_neg (hl hp _ h.hdr (by simp))]
      exact h.hdr
    blk := by show Blk w' hp #[.int .i64 (lim : Int), P.ov, _, u] _; rw [hov]; exact hB
    m := h.m
    out := fun i hi => by
      have : P.m ≤ i := hi
      rw [put_other _ _ _ _ (by omega)]
      exact h.out i this
    objs := by show w'.ownsRow base _ 1 P.ov P.m _; rw [hov]; exact hrow
    olab := fun k hk => by
      show (if v'.ownBlock = some k then some Lab.free else lab k) = _
      have hk : P.ov.ownBlock = some k := hk
      rw [if_neg (hl k _ (h.olab k hk) (by simp))]
      exact h.olab k hk
    each := fun i hi => by
      have hi : i < P.m := hi
      by_cases hm : i = n
      · subst hm
        refine ⟨.nilIface, by simp [hlen, hi], ?_⟩
        rw [put_same]
        exact rfl
      · obtain ⟨x, hx, ho'⟩ := h.each i hi
        refine ⟨x, by rw [List.getElem?_set_ne (fun e => hm e.symm)]; exact hx, ?_⟩
        rw [put_other _ _ _ _ hm]
        exact ho'.keeps hk fun g k hg hf => hkeep _ g k hg hf
    small := fun i => by
      by_cases hm : i = n
      · subst hm; rw [put_same]; trivial
      · rw [put_other _ _ _ _ hm]; exact h.small i
    free := hfree
    flab := fun k hk => by
      show (if v'.ownBlock = some k then some Lab.free else lab k) = _
      rw [if_pos hk]
    ord := hord
    inj := hs.inj hinj
    holes := fun x => by
      show (∃ k, k < P.nf + 1 ∧ f' k = x) ↔ (x < P.m ∧ _)
      rw [hs.mem x]
      have hx := h.holes x
      constructor
      · rintro ⟨k, hk, hkx⟩
        unfold snoc at hkx
        split at hkx
        · subst hkx; exact ⟨hnm, put_same _ _ _⟩
        · have h1 := hx.1 ⟨k, by omega, hkx⟩
          refine ⟨h1.1, ?_⟩
          rw [put_other _ _ _ _ (fun e => by rw [e, ho] at h1; cases h1.2)]
          exact h1.2
      · rintro ⟨h1, h2⟩
        by_cases hne : x = n
        · exact ⟨P.nf, by omega, by unfold snoc; rw [if_pos rfl, hne]⟩
        · rw [put_other _ _ _ _ hne] at h2
          obtain ⟨k, hk, hkx⟩ := hx.2 ⟨h1, h2⟩
          exact ⟨k, by omega, by unfold snoc; rw [if_neg (by omega)]; exact hkx⟩ }
end Go.Proofs.YtlibdhnlmekmhaaGreatDoor.Rep
end

/- The contracts of the functions of package heap that only read: valid, kind, the sizes; what a type assertion on an object gives. -/
section
namespace Go.Proofs.YtlibdhnlmekmhaaGreatDoor.Base
open Go.RowKit
open Go.Proofs.YtlibdhnlmekmhaaGreatDoor.Own Go.Proofs.YtlibdhnlmekmhaaGreatDoor.Hp Go.Proofs.YtlibdhnlmekmhaaGreatDoor.HeapOrd Go.Proofs.YtlibdhnlmekmhaaGreatDoor.Rep

theorem valid_nil (w : World) : Calls Tryz.prog 69 #[.pointer none] w fun e w' => e = .returned (.bool false) ∧ w = w' := by
  go_enter Tryz.func69, Tryz.ntmps69
  go_wp2
  go_ret
  exact ⟨rfl, rfl⟩
theorem valid_core (hp n : Nat) (w : World) (hc : w.cell? ⟨hp, 0, none⟩ = some (.int .i64 (n : Int))) (h1 : 1 ≤ n) :
    Calls Tryz.prog 69 #[.pointer (some ⟨hp, 0, none⟩)] w fun e w' => e = .returned (.bool true) ∧ w = w' := by
  have hd : decide (0 < n) = true := decide_eq_true (by omega)
  go_enter Tryz.func69, Tryz.ntmps69
  go_wp2
  go_ret
  exact ⟨rfl, rfl⟩

theorem as_nil_cons (w : World) : (Instr.typeAssert .nilIface 148 93 true).run Tryz.prog w = .ok (.tuple #[.pointer none, .bool false]) w := by kernel_rfl
theorem as_cons_cons (v : Value) (w : World) : (Instr.typeAssert (.iface 93 v) 148 93 true).run Tryz.prog w = .ok (.tuple #[v, .bool true]) w := by kernel_rfl
theorem as_text_cons (v : Value) (w : World) : (Instr.typeAssert (.iface 110 v) 148 93 true).run Tryz.prog w = .ok (.tuple #[.pointer none, .bool false]) w := by kernel_rfl
theorem as_vector_cons (v : Value) (w : World) : (Instr.typeAssert (.iface 189 v) 148 93 true).run Tryz.prog w = .ok (.tuple #[.pointer none, .bool false]) w := by kernel_rfl
theorem as_code_cons (v : Value) (w : World) : (Instr.typeAssert (.iface 190 v) 148 93 true).run Tryz.prog w = .ok (.tuple #[.pointer none, .bool false]) w := by kernel_rfl
theorem as_nil_text (w : World) : (Instr.typeAssert .nilIface 148 110 true).run Tryz.prog w = .ok (.tuple #[.pointer none, .bool false]) w := by kernel_rfl
theorem as_cons_text (v : Value) (w : World) : (Instr.typeAssert (.iface 93 v) 148 110 true).run Tryz.prog w = .ok (.tuple #[.pointer none, .bool false]) w := by kernel_rfl
theorem as_text_text (v : Value) (w : World) : (Instr.typeAssert (.iface 110 v) 148 110 true).run Tryz.prog w = .ok (.tuple #[v, .bool true]) w := by kernel_rfl
theorem as_vector_text (v : Value) (w : World) : (Instr.typeAssert (.iface 189 v) 148 110 true).run Tryz.prog w = .ok (.tuple #[.pointer none, .bool false]) w := by kernel_rfl
theorem as_code_text (v : Value) (w : World) : (Instr.typeAssert (.iface 190 v) 148 110 true).run Tryz.prog w = .ok (.tuple #[.pointer none, .bool false]) w := by kernel_rfl
theorem as_nil_vector (w : World) : (Instr.typeAssert .nilIface 148 189 true).run Tryz.prog w = .ok (.tuple #[.pointer none, .bool false]) w := by kernel_rfl
theorem as_cons_vector (v : Value) (w : World) : (Instr.typeAssert (.iface 93 v) 148 189 true).run Tryz.prog w = .ok (.tuple #[.pointer none, .bool false]) w := by kernel_rfl
theorem as_text_vector (v : Value) (w : World) : (Instr.typeAssert (.iface 110 v) 148 189 true).run Tryz.prog w = .ok (.tuple #[.pointer none, .bool false]) w := by kernel_rfl
theorem as_vector_vector (v : Value) (w : World) : (Instr.typeAssert (.iface 189 v) 148 189 true).run Tryz.prog w = .ok (.tuple #[v, .bool true]) w := by kernel_rfl
theorem as_code_vector (v : Value) (w : World) : (Instr.typeAssert (.iface 190 v) 148 189 true).run Tryz.prog w = .ok (.tuple #[.pointer none, .bool false]) w := by kernel_rfl
theorem as_nil_code (w : World) : (Instr.typeAssert .nilIface 148 190 true).run Tryz.prog w = .ok (.tuple #[.pointer none, .bool false]) w := by kernel_rfl
theorem as_cons_code (v : Value) (w : World) : (Instr.typeAssert (.iface 93 v) 148 190 true).run Tryz.prog w = .ok (.tuple #[.pointer none, .bool false]) w := by kernel_rfl
theorem as_text_code (v : Value) (w : World) : (Instr.typeAssert (.iface 110 v) 148 190 true).run Tryz.prog w = .ok (.tuple #[.pointer none, .bool false]) w := by kernel_rfl
theorem as_vector_code (v : Value) (w : World) : (Instr.typeAssert (.iface 189 v) 148 190 true).run Tryz.prog w = .ok (.tuple #[.pointer none, .bool false]) w := by kernel_rfl
theorem as_code_code (v : Value) (w : World) : (Instr.typeAssert (.iface 190 v) 148 190 true).run Tryz.prog w = .ok (.tuple #[v, .bool true]) w := by kernel_rfl

theorem kind_nil (w : World) : Calls Tryz.prog 156 #[.nilIface] w fun e w' => e = .returned (.int .i64 (-1)) ∧ w = w' := by
  have a1 := as_nil_cons
  have a2 := as_nil_text
  have a3 := as_nil_vector
  have a4 := as_nil_code
  go_enter Tryz.func156, Tryz.ntmps156
  go_wp2
  go_ret
  exact ⟨rfl, rfl⟩
theorem kind_cons (v : Value) (w : World) : Calls Tryz.prog 156 #[.iface 93 v] w fun e w' => e = .returned (.int .i64 2) ∧ w = w' := by
  have a0 := as_cons_cons
  go_enter Tryz.func156, Tryz.ntmps156
  go_wp2
  go_ret
  exact ⟨rfl, rfl⟩
theorem kind_text (v : Value) (w : World) : Calls Tryz.prog 156 #[.iface 110 v] w fun e w' => e = .returned (.int .i64 3) ∧ w = w' := by
  have a0 := as_text_cons
  have a1 := as_text_text
  go_enter Tryz.func156, Tryz.ntmps156
  go_wp2
  go_ret
  exact ⟨rfl, rfl⟩
theorem kind_vector (v : Value) (w : World) : Calls Tryz.prog 156 #[.iface 189 v] w fun e w' => e = .returned (.int .i64 4) ∧ w = w' := by
  have a0 := as_vector_cons
  have a1 := as_vector_text
  have a2 := as_vector_vector
  go_enter Tryz.func156, Tryz.ntmps156
  go_wp2
  go_ret
  exact ⟨rfl, rfl⟩
theorem kind_code (v : Value) (w : World) : Calls Tryz.prog 156 #[.iface 190 v] w fun e w' => e = .returned (.int .i64 6) ∧ w = w' := by
  have a0 := as_code_cons
  have a1 := as_code_text
  have a2 := as_code_vector
  have a3 := as_code_code
  go_enter Tryz.func156, Tryz.ntmps156
  go_wp2
  go_ret
  exact ⟨rfl, rfl⟩

def kindO : Option Ob → Int
  | none => -1
  | some o => o.kind
theorem kind_any (lab : Nat → Option Lab) (n : Nat) (v : Value) (o : Option Ob) (w0 w : World) (h : ObAt w0 lab n v o) :
    Calls Tryz.prog 156 #[v] w fun e w' => e = .returned (.int .i64 (kindO o)) ∧ w = w' := by
  match o with
  | none => obtain rfl := h; exact kind_nil w
  | some (.cons a d) => obtain ⟨g, rfl, _⟩ := h; exact kind_cons _ w
  | some (.text s k) => obtain ⟨g, rfl, _⟩ := h; exact kind_text _ w
  | some (.vec l) => obtain ⟨g, r, rfl, _⟩ := h; exact kind_vector _ w
  | some (.code p q z b l) => obtain ⟨g, rb, rl, rfl, _⟩ := h; exact kind_code _ w
end Go.Proofs.YtlibdhnlmekmhaaGreatDoor.Base
end

/- The contracts of (*Heap).find. -/
section
namespace Go.Proofs.YtlibdhnlmekmhaaGreatDoor.Find
open Go.RowKit
open Go.Proofs.YtlibdhnlmekmhaaGreatDoor.Own Go.Proofs.YtlibdhnlmekmhaaGreatDoor.Hp Go.Proofs.YtlibdhnlmekmhaaGreatDoor.HeapOrd Go.Proofs.YtlibdhnlmekmhaaGreatDoor.Rep Go.Proofs.YtlibdhnlmekmhaaGreatDoor.Base

set_option maxHeartbeats 1000000 in
theorem find_less (hp : Nat) (k n : Int) (w : World) (h : n < 0) :
    Calls Tryz.prog 133 #[.pointer (some ⟨hp, 0, none⟩), wd (k, n)] w fun e w' => e = .returned .nilIface ∧ Below w.heap.size w w' := by
  have hd : decide (n < 0) = true := decide_eq_true h
  go_enter Tryz.func133, Tryz.ntmps133
  go_wp2
  go_quiet (fail)
  go_wp2
  go_ret
  exact ⟨rfl, Go.Proofs.YtlibdhnlmekmhaaGreatDoor.Own.below_drewN ((Below.refl _ _).alloc (Nat.le_refl _) _) _⟩
set_option maxHeartbeats 1000000 in
theorem find_more (hp : Nat) (k n : Int) (A : Option Addr) (m cap : Nat) (w : World) (hc : w.cell? ⟨hp, 1, none⟩ = some (.slice A m cap)) (h0 : 0 ≤ n) (h : (m : Int) ≤ n) :
    Calls Tryz.prog 133 #[.pointer (some ⟨hp, 0, none⟩), wd (k, n)] w fun e w' => e = .returned .nilIface ∧ Below w.heap.size w w' := by
  have hc1 := more hc
  have hd : decide (n < 0) = false := decide_eq_false (by omega)
  go_enter Tryz.func133, Tryz.ntmps133
  go_wp2
  go_quiet (fail)
  go_wp2
  go_ret
  exact ⟨rfl, Go.Proofs.YtlibdhnlmekmhaaGreatDoor.Own.below_drewN ((Below.refl _ _).alloc (Nat.le_refl _) _) _⟩

set_option maxHeartbeats 1000000 in
/-- The object at a number that is in reach. -/
theorem find_in (hp g i : Nat) (k c : Int) (m cap : Nat) (v : Value) (w : World) (hc : w.cell? ⟨hp, 1, none⟩ = some (.slice (some ⟨g, 0, none⟩) m cap)) (hv : w.cell? ⟨g, i, none⟩ = some v) (h : i < m)
    (K : ∀ w, Calls Tryz.prog 156 #[v] w fun e w' => e = .returned (.int .i64 c) ∧ w = w') (r : Value) (hr : Hid (r = if c = k then v else .nilIface)) :
    Calls Tryz.prog 133 #[.pointer (some ⟨hp, 0, none⟩), wd (k, (i : Int))] w fun e w' => e = .returned r ∧ Below w.heap.size w w' := by
  have hc1 := more hc
  have hv1 := more hv
  have hd : decide ((i : Int) < 0) = false := decide_eq_false (by omega)
  have hd2 : decide (m ≤ i) = false := decide_eq_false (by omega)
  have HK := Lib.hid K
  clear K
  by_cases hck : c = k
  · subst hck
    obtain rfl : r = v := by rw [hr.out, if_pos rfl]
    clear hr
    go_enter Tryz.func133, Tryz.ntmps133
    go_wp2
    go_quiet (fail)
    go_wp2
    go_quiet (fail)
    go_wp2
    go_quiet ((go_at_call 156; first | exact quiet_left HK.out | exact quiet_add HK.out | exact quiet_add3 HK.out))
    go_wp2
    go_ret
    exact ⟨rfl, Go.Proofs.YtlibdhnlmekmhaaGreatDoor.Own.below_drewN (Go.Proofs.YtlibdhnlmekmhaaGreatDoor.Own.below_drewN (Go.Proofs.YtlibdhnlmekmhaaGreatDoor.Own.below_drewN ((Below.refl _ _).alloc (Nat.le_refl _) _) _) _) _⟩
  · obtain rfl : r = .nilIface := by rw [hr.out, if_neg hck]
    have hck2 : (c == k) = false := beq_eq_false_iff_ne.2 hck
    clear hr hck
    go_enter Tryz.func133, Tryz.ntmps133
    go_wp2
    go_quiet (fail)
    go_wp2
    go_quiet (fail)
    go_wp2
    go_quiet ((go_at_call 156; first | exact quiet_left HK.out | exact quiet_add HK.out | exact quiet_add3 HK.out))
    go_wp2
    go_ret
    exact ⟨rfl, Go.Proofs.YtlibdhnlmekmhaaGreatDoor.Own.below_drewN (Go.Proofs.YtlibdhnlmekmhaaGreatDoor.Own.below_drewN (Go.Proofs.YtlibdhnlmekmhaaGreatDoor.Own.below_drewN ((Below.refl _ _).alloc (Nat.le_refl _) _) _) _) _⟩
end Go.Proofs.YtlibdhnlmekmhaaGreatDoor.Find
end

/- The contracts of (*Heap).find over a heap, and of get at each type of object. -/
section
namespace Go.Proofs.YtlibdhnlmekmhaaGreatDoor.Get
open Go.RowKit
open Go.Proofs.YtlibdhnlmekmhaaGreatDoor.Own Go.Proofs.YtlibdhnlmekmhaaGreatDoor.Hp Go.Proofs.YtlibdhnlmekmhaaGreatDoor.HeapOrd Go.Proofs.YtlibdhnlmekmhaaGreatDoor.Rep Go.Proofs.YtlibdhnlmekmhaaGreatDoor.Base Go.Proofs.YtlibdhnlmekmhaaGreatDoor.Find

/-- A call that returns a value and leaves all that was there as it was, in every world that has only grown. -/
def Reads (W : World) (f : FuncId) (a : Array Value) (v : Value) : Prop := ∀ w, Below W.heap.size W w → Calls Tryz.prog f a w fun e w' => e = .returned v ∧ Below w.heap.size w w'
theorem Reads.out {W : World} {f : FuncId} {a : Array Value} {v : Value} (h : Reads W f a v) (w : World) (hb : Below W.heap.size W w) : Calls Tryz.prog f a w fun e w' => e = .returned v ∧ Below w.heap.size w w' := h w hb
theorem Reads.at {W : World} {f : FuncId} {a : Array Value} {v : Value} (h : Reads W f a v) : Calls Tryz.prog f a W fun e w' => e = .returned v ∧ Below W.heap.size W w' := h W (Below.refl _ _)
theorem Reads.below {W w : World} {f : FuncId} {a : Array Value} {v : Value} (h : Reads W f a v) (hb : Below W.heap.size W w) : Reads w f a v := fun w' hb' => h w' (hb.trans (hb'.mono hb.size))
theorem reads_same {W : World} {f : FuncId} {a : Array Value} {v : Value} (h : ∀ w, Below W.heap.size W w → Calls Tryz.prog f a w fun e w' => e = .returned v ∧ w = w') : Reads W f a v :=
  fun w hb => (h w hb).mono fun _ _ ⟨he, hw⟩ => ⟨he, by subst hw; exact Below.refl _ _⟩

abbrev ptr (g : Nat) : Value := .pointer (some ⟨g, 0, none⟩)

theorem find_any {w : World} {base hp lim : Nat} {ob : Obs} {lab : Nat → Option Lab} {P : Parts} (h : HeapIs w base hp lim ob lab P) (x : Wd) :
    ∃ v, ObAt w lab x.2.toNat v (findO ob x) ∧ (findO ob x ≠ none → P.vals[x.2.toNat]? = some v) ∧ Reads w 133 #[ptr hp, wd x] v := by
  obtain ⟨k, n⟩ := x
  have hc : ∀ w', Below w.heap.size w w' → w'.cell? ⟨hp, 1, none⟩ = some P.ov := fun w' hb => (h.below hb).blk.cell 1 _ rfl
  by_cases h0 : n < 0
  · have hn := findO_none (f := ob) (w := (k, n)) fun hh => absurd hh (by show ¬ 0 ≤ n; omega)
    refine ⟨.nilIface, ?_, fun hh => absurd hn hh, fun w' _ => find_less hp k n w' h0⟩
    rw [hn]
    exact rfl
  · obtain ⟨i, rfl⟩ := Int.eq_ofNat_of_zero_le (by omega : 0 ≤ n)
    by_cases hi : i < P.m
    · obtain ⟨v, hv, ho⟩ := h.each i hi
      have hr := h.objs.2
      rcases hr with ⟨_, h0⟩ | ⟨g, cap, cur, hov, _⟩
      · omega
      · have hcell : ∀ w', Below w.heap.size w w' → w'.cell? ⟨g, i, none⟩ = some v := fun w' hb => by
          have := (h.below hb).objs
          rw [hov] at this
          exact (Row.of_owns this).cell i v hv
        have hf : findO ob (k, (i : Int)) = (match ob i with | some o => if o.kind = k then some o else none | none => none) := by
          unfold findO
          rw [if_pos (by show (0 : Int) ≤ i; omega)]
          rfl
        refine ⟨if kindO (ob i) = k then v else .nilIface, ?_, ?_, fun w' hb => find_in hp g i k (kindO (ob i)) P.m cap v w' (by rw [hc w' hb, hov]) (hcell w' hb) hi (fun w2 => kind_any lab i v (ob i) w w2 ho) _ rfl⟩
        rotate_left
        · intro hh
          rw [hf] at hh
          cases hob : ob i with
          | none => rw [hob] at hh; exact absurd rfl hh
          | some o =>
            rw [hob] at hh
            have hk : o.kind = k := Classical.byContradiction fun hk => hh (if_neg hk)
            show P.vals[i]? = some (if o.kind = k then v else .nilIface)
            rw [if_pos hk]
            exact hv
        show ObAt w lab i _ _
        rw [hf]
        cases hob : ob i with
        | none =>
          rw [hob] at ho
          obtain rfl := ho
          simp [ObAt]
        | some o =>
          show ObAt w lab i (if o.kind = k then v else .nilIface) (if o.kind = k then some o else none)
          by_cases hk : o.kind = k
          · rw [if_pos hk, if_pos hk, ← hob]; exact ho
          · rw [if_neg hk, if_neg hk]; exact rfl
    · have hov : ∃ A cap, P.ov = .slice A P.m cap := by
        rcases h.objs.2 with ⟨hv, hm⟩ | ⟨g, cap, cur, hov, _⟩
        · exact ⟨none, 0, by rw [hv, hm]⟩
        · exact ⟨_, _, hov⟩
      obtain ⟨A, cap, hov⟩ := hov
      have hn := findO_none (f := ob) (w := (k, (i : Int))) fun hh o ho => by
        have := h.out i (by omega)
        simp only [Int.toNat_natCast] at ho
        rw [this] at ho; cases ho
      refine ⟨.nilIface, ?_, fun hh => absurd hn hh, fun w' hb => find_more hp k i A P.m cap w' (by rw [hc w' hb, hov]) (by omega) (by omega)⟩
      rw [hn]
      exact rfl

theorem get_cons_null (x : Wd) (w : World) : Calls Tryz.prog 71 #[.pointer none, wd x] w fun e w' => e = .returned (.tuple #[.pointer none, .int .i64 1]) ∧ Below w.heap.size w w' := by
  have HV := Lib.hid valid_nil
  go_enter Tryz.func71, Tryz.ntmps71
  go_wp2_with (go_at_call 69; refine (HV.out _).mono ?_; rintro e w' ⟨rfl, rfl⟩)
  go_ret2
  exact ⟨rfl, (Below.refl _ _).alloc (Nat.le_refl _) _⟩
set_option maxHeartbeats 1000000 in
theorem get_cons_none (hp : Nat) (x : Wd) (w : World) (V : ∀ w', Below w.heap.size w w' → Calls Tryz.prog 69 #[ptr hp] w' fun e w'' => e = .returned (.bool true) ∧ w' = w'') (Fi : Reads w 133 #[ptr hp, wd x] .nilIface) :
    Calls Tryz.prog 71 #[ptr hp, wd x] w fun e w' => e = .returned (.tuple #[.pointer none, .int .i64 6]) ∧ Below w.heap.size w w' := by
  have hb0 : Below w.heap.size w (w.alloc (.cells #[.int .i64 x.1, .int .i64 x.2] 28)) := (Below.refl _ _).alloc (Nat.le_refl _) _
  have HV := Lib.hid (V _ hb0)
  have HF := Lib.hid (Fi.out _ hb0)
  have a1 := as_nil_cons
  clear V Fi
  go_enter Tryz.func71, Tryz.ntmps71
  go_wp2_with (first
    | (go_at_call 69; refine HV.out.mono ?_; rintro e w' ⟨rfl, rfl⟩)
    | (go_at_call 133; refine HF.out.mono ?_; rintro e w2 ⟨rfl, hb2⟩))
  go_ret2
  exact ⟨rfl, hb0.trans (hb2.mono hb0.size)⟩
set_option maxHeartbeats 1000000 in
theorem get_cons_cons (hp : Nat) (x : Wd) (v : Value) (w : World) (V : ∀ w', Below w.heap.size w w' → Calls Tryz.prog 69 #[ptr hp] w' fun e w'' => e = .returned (.bool true) ∧ w' = w'') (Fi : Reads w 133 #[ptr hp, wd x] (.iface 93 v)) :
    Calls Tryz.prog 71 #[ptr hp, wd x] w fun e w' => e = .returned (.tuple #[v, .int .i64 0]) ∧ Below w.heap.size w w' := by
  have hb0 : Below w.heap.size w (w.alloc (.cells #[.int .i64 x.1, .int .i64 x.2] 28)) := (Below.refl _ _).alloc (Nat.le_refl _) _
  have HV := Lib.hid (V _ hb0)
  have HF := Lib.hid (Fi.out _ hb0)
  have a1 := as_cons_cons
  clear V Fi
  go_enter Tryz.func71, Tryz.ntmps71
  go_wp2_with (first
    | (go_at_call 69; refine HV.out.mono ?_; rintro e w' ⟨rfl, rfl⟩)
    | (go_at_call 133; refine HF.out.mono ?_; rintro e w2 ⟨rfl, hb2⟩))
  go_ret2
  exact ⟨rfl, hb0.trans (hb2.mono hb0.size)⟩
set_option maxHeartbeats 1000000 in
theorem get_cons_text (hp : Nat) (x : Wd) (v : Value) (w : World) (V : ∀ w', Below w.heap.size w w' → Calls Tryz.prog 69 #[ptr hp] w' fun e w'' => e = .returned (.bool true) ∧ w' = w'') (Fi : Reads w 133 #[ptr hp, wd x] (.iface 110 v)) :
    Calls Tryz.prog 71 #[ptr hp, wd x] w fun e w' => e = .returned (.tuple #[.pointer none, .int .i64 6]) ∧ Below w.heap.size w w' := by
  have hb0 : Below w.heap.size w (w.alloc (.cells #[.int .i64 x.1, .int .i64 x.2] 28)) := (Below.refl _ _).alloc (Nat.le_refl _) _
  have HV := Lib.hid (V _ hb0)
  have HF := Lib.hid (Fi.out _ hb0)
  have a1 := as_text_cons
  clear V Fi
  go_enter Tryz.func71, Tryz.ntmps71
  go_wp2_with (first
    | (go_at_call 69; refine HV.out.mono ?_; rintro e w' ⟨rfl, rfl⟩)
    | (go_at_call 133; refine HF.out.mono ?_; rintro e w2 ⟨rfl, hb2⟩))
  go_ret2
  exact ⟨rfl, hb0.trans (hb2.mono hb0.size)⟩
set_option maxHeartbeats 1000000 in
theorem get_cons_vector (hp : Nat) (x : Wd) (v : Value) (w : World) (V : ∀ w', Below w.heap.size w w' → Calls Tryz.prog 69 #[ptr hp] w' fun e w'' => e = .returned (.bool true) ∧ w' = w'') (Fi : Reads w 133 #[ptr hp, wd x] (.iface 189 v)) :
    Calls Tryz.prog 71 #[ptr hp, wd x] w fun e w' => e = .returned (.tuple #[.pointer none, .int .i64 6]) ∧ Below w.heap.size w w' := by
  have hb0 : Below w.heap.size w (w.alloc (.cells #[.int .i64 x.1, .int .i64 x.2] 28)) := (Below.refl _ _).alloc (Nat.le_refl _) _
  have HV := Lib.hid (V _ hb0)
  have HF := Lib.hid (Fi.out _ hb0)
  have a1 := as_vector_cons
  clear V Fi
  go_enter Tryz.func71, Tryz.ntmps71
  go_wp2_with (first
    | (go_at_call 69; refine HV.out.mono ?_; rintro e w' ⟨rfl, rfl⟩)
    | (go_at_call 133; refine HF.out.mono ?_; rintro e w2 ⟨rfl, hb2⟩))
  go_ret2
  exact ⟨rfl, hb0.trans (hb2.mono hb0.size)⟩
set_option maxHeartbeats 1000000 in
theorem get_cons_code (hp : Nat) (x : Wd) (v : Value) (w : World) (V : ∀ w', Below w.heap.size w w' → Calls Tryz.prog 69 #[ptr hp] w' fun e w'' => e = .returned (.bool true) ∧ w' = w'') (Fi : Reads w 133 #[ptr hp, wd x] (.iface 190 v)) :
    Calls Tryz.prog 71 #[ptr hp, wd x] w fun e w' => e = .returned (.tuple #[.pointer none, .int .i64 6]) ∧ Below w.heap.size w w' := by
  have hb0 : Below w.heap.size w (w.alloc (.cells #[.int .i64 x.1, .int .i64 x.2] 28)) := (Below.refl _ _).alloc (Nat.le_refl _) _
  have HV := Lib.hid (V _ hb0)
  have HF := Lib.hid (Fi.out _ hb0)
  have a1 := as_code_cons
  clear V Fi
  go_enter Tryz.func71, Tryz.ntmps71
  go_wp2_with (first
    | (go_at_call 69; refine HV.out.mono ?_; rintro e w' ⟨rfl, rfl⟩)
    | (go_at_call 133; refine HF.out.mono ?_; rintro e w2 ⟨rfl, hb2⟩))
  go_ret2
  exact ⟨rfl, hb0.trans (hb2.mono hb0.size)⟩
theorem get_text_null (x : Wd) (w : World) : Calls Tryz.prog 77 #[.pointer none, wd x] w fun e w' => e = .returned (.tuple #[.pointer none, .int .i64 1]) ∧ Below w.heap.size w w' := by
  have HV := Lib.hid valid_nil
  go_enter Tryz.func77, Tryz.ntmps77
  go_wp2_with (go_at_call 69; refine (HV.out _).mono ?_; rintro e w' ⟨rfl, rfl⟩)
  go_ret2
  exact ⟨rfl, (Below.refl _ _).alloc (Nat.le_refl _) _⟩
set_option maxHeartbeats 1000000 in
theorem get_text_none (hp : Nat) (x : Wd) (w : World) (V : ∀ w', Below w.heap.size w w' → Calls Tryz.prog 69 #[ptr hp] w' fun e w'' => e = .returned (.bool true) ∧ w' = w'') (Fi : Reads w 133 #[ptr hp, wd x] .nilIface) :
    Calls Tryz.prog 77 #[ptr hp, wd x] w fun e w' => e = .returned (.tuple #[.pointer none, .int .i64 6]) ∧ Below w.heap.size w w' := by
  have hb0 : Below w.heap.size w (w.alloc (.cells #[.int .i64 x.1, .int .i64 x.2] 28)) := (Below.refl _ _).alloc (Nat.le_refl _) _
  have HV := Lib.hid (V _ hb0)
  have HF := Lib.hid (Fi.out _ hb0)
  have a1 := as_nil_text
  clear V Fi
  go_enter Tryz.func77, Tryz.ntmps77
  go_wp2_with (first
    | (go_at_call 69; refine HV.out.mono ?_; rintro e w' ⟨rfl, rfl⟩)
    | (go_at_call 133; refine HF.out.mono ?_; rintro e w2 ⟨rfl, hb2⟩))
  go_ret2
  exact ⟨rfl, hb0.trans (hb2.mono hb0.size)⟩
set_option maxHeartbeats 1000000 in
theorem get_text_cons (hp : Nat) (x : Wd) (v : Value) (w : World) (V : ∀ w', Below w.heap.size w w' → Calls Tryz.prog 69 #[ptr hp] w' fun e w'' => e = .returned (.bool true) ∧ w' = w'') (Fi : Reads w 133 #[ptr hp, wd x] (.iface 93 v)) :
    Calls Tryz.prog 77 #[ptr hp, wd x] w fun e w' => e = .returned (.tuple #[.pointer none, .int .i64 6]) ∧ Below w.heap.size w w' := by
  have hb0 : Below w.heap.size w (w.alloc (.cells #[.int .i64 x.1, .int .i64 x.2] 28)) := (Below.refl _ _).alloc (Nat.le_refl _) _
  have HV := Lib.hid (V _ hb0)
  have HF := Lib.hid (Fi.out _ hb0)
  have a1 := as_cons_text
  clear V Fi
  go_enter Tryz.func77, Tryz.ntmps77
  go_wp2_with (first
    | (go_at_call 69; refine HV.out.mono ?_; rintro e w' ⟨rfl, rfl⟩)
    | (go_at_call 133; refine HF.out.mono ?_; rintro e w2 ⟨rfl, hb2⟩))
  go_ret2
  exact ⟨rfl, hb0.trans (hb2.mono hb0.size)⟩
set_option maxHeartbeats 1000000 in
theorem get_text_text (hp : Nat) (x : Wd) (v : Value) (w : World) (V : ∀ w', Below w.heap.size w w' → Calls Tryz.prog 69 #[ptr hp] w' fun e w'' => e = .returned (.bool true) ∧ w' = w'') (Fi : Reads w 133 #[ptr hp, wd x] (.iface 110 v)) :
    Calls Tryz.prog 77 #[ptr hp, wd x] w fun e w' => e = .returned (.tuple #[v, .int .i64 0]) ∧ Below w.heap.size w w' := by
  have hb0 : Below w.heap.size w (w.alloc (.cells #[.int .i64 x.1, .int .i64 x.2] 28)) := (Below.refl _ _).alloc (Nat.le_refl _) _
  have HV := Lib.hid (V _ hb0)
  have HF := Lib.hid (Fi.out _ hb0)
  have a1 := as_text_text
  clear V Fi
  go_enter Tryz.func77, Tryz.ntmps77
  go_wp2_with (first
    | (go_at_call 69; refine HV.out.mono ?_; rintro e w' ⟨rfl, rfl⟩)
    | (go_at_call 133; refine HF.out.mono ?_; rintro e w2 ⟨rfl, hb2⟩))
  go_ret2
  exact ⟨rfl, hb0.trans (hb2.mono hb0.size)⟩
set_option maxHeartbeats 1000000 in
theorem get_text_vector (hp : Nat) (x : Wd) (v : Value) (w : World) (V : ∀ w', Below w.heap.size w w' → Calls Tryz.prog 69 #[ptr hp] w' fun e w'' => e = .returned (.bool true) ∧ w' = w'') (Fi : Reads w 133 #[ptr hp, wd x] (.iface 189 v)) :
    Calls Tryz.prog 77 #[ptr hp, wd x] w fun e w' => e = .returned (.tuple #[.pointer none, .int .i64 6]) ∧ Below w.heap.size w w' := by
  have hb0 : Below w.heap.size w (w.alloc (.cells #[.int .i64 x.1, .int .i64 x.2] 28)) := (Below.refl _ _).alloc (Nat.le_refl _) _
  have HV := Lib.hid (V _ hb0)
  have HF := Lib.hid (Fi.out _ hb0)
  have a1 := as_vector_text
  clear V Fi
  go_enter Tryz.func77, Tryz.ntmps77
  go_wp2_with (first
    | (go_at_call 69; refine HV.out.mono ?_; rintro e w' ⟨rfl, rfl⟩)
    | (go_at_call 133; refine HF.out.mono ?_; rintro e w2 ⟨rfl, hb2⟩))
  go_ret2
  exact ⟨rfl, hb0.trans (hb2.mono hb0.size)⟩
set_option maxHeartbeats 1000000 in
theorem get_text_code (hp : Nat) (x : Wd) (v : Value) (w : World) (V : ∀ w', Below w.heap.size w w' → Calls Tryz.prog 69 #[ptr hp] w' fun e w'' => e = .returned (.bool true) ∧ w' = w'') (Fi : Reads w 133 #[ptr hp, wd x] (.iface 190 v)) :
    Calls Tryz.prog 77 #[ptr hp, wd x] w fun e w' => e = .returned (.tuple #[.pointer none, .int .i64 6]) ∧ Below w.heap.size w w' := by
  have hb0 : Below w.heap.size w (w.alloc (.cells #[.int .i64 x.1, .int .i64 x.2] 28)) := (Below.refl _ _).alloc (Nat.le_refl _) _
  have HV := Lib.hid (V _ hb0)
  have HF := Lib.hid (Fi.out _ hb0)
  have a1 := as_code_text
  clear V Fi
  go_enter Tryz.func77, Tryz.ntmps77
  go_wp2_with (first
    | (go_at_call 69; refine HV.out.mono ?_; rintro e w' ⟨rfl, rfl⟩)
    | (go_at_call 133; refine HF.out.mono ?_; rintro e w2 ⟨rfl, hb2⟩))
  go_ret2
  exact ⟨rfl, hb0.trans (hb2.mono hb0.size)⟩
theorem get_vector_null (x : Wd) (w : World) : Calls Tryz.prog 230 #[.pointer none, wd x] w fun e w' => e = .returned (.tuple #[.pointer none, .int .i64 1]) ∧ Below w.heap.size w w' := by
  have HV := Lib.hid valid_nil
  go_enter Tryz.func230, Tryz.ntmps230
  go_wp2_with (go_at_call 69; refine (HV.out _).mono ?_; rintro e w' ⟨rfl, rfl⟩)
  go_ret2
  exact ⟨rfl, (Below.refl _ _).alloc (Nat.le_refl _) _⟩
set_option maxHeartbeats 1000000 in
theorem get_vector_none (hp : Nat) (x : Wd) (w : World) (V : ∀ w', Below w.heap.size w w' → Calls Tryz.prog 69 #[ptr hp] w' fun e w'' => e = .returned (.bool true) ∧ w' = w'') (Fi : Reads w 133 #[ptr hp, wd x] .nilIface) :
    Calls Tryz.prog 230 #[ptr hp, wd x] w fun e w' => e = .returned (.tuple #[.pointer none, .int .i64 6]) ∧ Below w.heap.size w w' := by
  have hb0 : Below w.heap.size w (w.alloc (.cells #[.int .i64 x.1, .int .i64 x.2] 28)) := (Below.refl _ _).alloc (Nat.le_refl _) _
  have HV := Lib.hid (V _ hb0)
  have HF := Lib.hid (Fi.out _ hb0)
  have a1 := as_nil_vector
  clear V Fi
  go_enter Tryz.func230, Tryz.ntmps230
  go_wp2_with (first
    | (go_at_call 69; refine HV.out.mono ?_; rintro e w' ⟨rfl, rfl⟩)
    | (go_at_call 133; refine HF.out.mono ?_; rintro e w2 ⟨rfl, hb2⟩))
  go_ret2
  exact ⟨rfl, hb0.trans (hb2.mono hb0.size)⟩
set_option maxHeartbeats 1000000 in
theorem get_vector_cons (hp : Nat) (x : Wd) (v : Value) (w : World) (V : ∀ w', Below w.heap.size w w' → Calls Tryz.prog 69 #[ptr hp] w' fun e w'' => e = .returned (.bool true) ∧ w' = w'') (Fi : Reads w 133 #[ptr hp, wd x] (.iface 93 v)) :
    Calls Tryz.prog 230 #[ptr hp, wd x] w fun e w' => e = .returned (.tuple #[.pointer none, .int .i64 6]) ∧ Below w.heap.size w w' := by
  have hb0 : Below w.heap.size w (w.alloc (.cells #[.int .i64 x.1, .int .i64 x.2] 28)) := (Below.refl _ _).alloc (Nat.le_refl _) _
  have HV := Lib.hid (V _ hb0)
  have HF := Lib.hid (Fi.out _ hb0)
  have a1 := as_cons_vector
  clear V Fi
  go_enter Tryz.func230, Tryz.ntmps230
  go_wp2_with (first
    | (go_at_call 69; refine HV.out.mono ?_; rintro e w' ⟨rfl, rfl⟩)
    | (go_at_call 133; refine HF.out.mono ?_; rintro e w2 ⟨rfl, hb2⟩))
  go_ret2
  exact ⟨rfl, hb0.trans (hb2.mono hb0.size)⟩
set_option maxHeartbeats 1000000 in
theorem get_vector_text (hp : Nat) (x : Wd) (v : Value) (w : World) (V : ∀ w', Below w.heap.size w w' → Calls Tryz.prog 69 #[ptr hp] w' fun e w'' => e = .returned (.bool true) ∧ w' = w'') (Fi : Reads w 133 #[ptr hp, wd x] (.iface 110 v)) :
    Calls Tryz.prog 230 #[ptr hp, wd x] w fun e w' => e = .returned (.tuple #[.pointer none, .int .i64 6]) ∧ Below w.heap.size w w' := by
  have hb0 : Below w.heap.size w (w.alloc (.cells #[.int .i64 x.1, .int .i64 x.2] 28)) := (Below.refl _ _).alloc (Nat.le_refl _) _
  have HV := Lib.hid (V _ hb0)
  have HF := Lib.hid (Fi.out _ hb0)
  have a1 := as_text_vector
  clear V Fi
  go_enter Tryz.func230, Tryz.ntmps230
  go_wp2_with (first
    | (go_at_call 69; refine HV.out.mono ?_; rintro e w' ⟨rfl, rfl⟩)
    | (go_at_call 133; refine HF.out.mono ?_; rintro e w2 ⟨rfl, hb2⟩))
  go_ret2
  exact ⟨rfl, hb0.trans (hb2.mono hb0.size)⟩
set_option maxHeartbeats 1000000 in
theorem get_vector_vector (hp : Nat) (x : Wd) (v : Value) (w : World) (V : ∀ w', Below w.heap.size w w' → Calls Tryz.prog 69 #[ptr hp] w' fun e w'' => e = .returned (.bool true) ∧ w' = w'') (Fi : Reads w 133 #[ptr hp, wd x] (.iface 189 v)) :
    Calls Tryz.prog 230 #[ptr hp, wd x] w fun e w' => e = .returned (.tuple #[v, .int .i64 0]) ∧ Below w.heap.size w w' := by
  have hb0 : Below w.heap.size w (w.alloc (.cells #[.int .i64 x.1, .int .i64 x.2] 28)) := (Below.refl _ _).alloc (Nat.le_refl _) _
  have HV := Lib.hid (V _ hb0)
  have HF := Lib.hid (Fi.out _ hb0)
  have a1 := as_vector_vector
  clear V Fi
  go_enter Tryz.func230, Tryz.ntmps230
  go_wp2_with (first
    | (go_at_call 69; refine HV.out.mono ?_; rintro e w' ⟨rfl, rfl⟩)
    | (go_at_call 133; refine HF.out.mono ?_; rintro e w2 ⟨rfl, hb2⟩))
  go_ret2
  exact ⟨rfl, hb0.trans (hb2.mono hb0.size)⟩
set_option maxHeartbeats 1000000 in
theorem get_vector_code (hp : Nat) (x : Wd) (v : Value) (w : World) (V : ∀ w', Below w.heap.size w w' → Calls Tryz.prog 69 #[ptr hp] w' fun e w'' => e = .returned (.bool true) ∧ w' = w'') (Fi : Reads w 133 #[ptr hp, wd x] (.iface 190 v)) :
    Calls Tryz.prog 230 #[ptr hp, wd x] w fun e w' => e = .returned (.tuple #[.pointer none, .int .i64 6]) ∧ Below w.heap.size w w' := by
  have hb0 : Below w.heap.size w (w.alloc (.cells #[.int .i64 x.1, .int .i64 x.2] 28)) := (Below.refl _ _).alloc (Nat.le_refl _) _
  have HV := Lib.hid (V _ hb0)
  have HF := Lib.hid (Fi.out _ hb0)
  have a1 := as_code_vector
  clear V Fi
  go_enter Tryz.func230, Tryz.ntmps230
  go_wp2_with (first
    | (go_at_call 69; refine HV.out.mono ?_; rintro e w' ⟨rfl, rfl⟩)
    | (go_at_call 133; refine HF.out.mono ?_; rintro e w2 ⟨rfl, hb2⟩))
  go_ret2
  exact ⟨rfl, hb0.trans (hb2.mono hb0.size)⟩
theorem valid_any {w : World} {base hp lim : Nat} {ob : Obs} {lab : Nat → Option Lab} {P : Parts} (h : HeapIs w base hp lim ob lab P) :
    ∀ w', Below w.heap.size w w' → Calls Tryz.prog 69 #[ptr hp] w' fun e w'' => e = .returned (.bool true) ∧ w' = w'' :=
  fun w' hb => valid_core hp lim w' ((h.below hb).blk.cell 0 _ rfl) h.lim1

/-- get at *cons: what it returns, by the object that the word refers to. -/
theorem get_cons_any {w : World} {base hp lim : Nat} {ob : Obs} {lab : Nat → Option Lab} {P : Parts} (h : HeapIs w base hp lim ob lab P) (x : Wd) :
    ((∃ g, ObAt w lab x.2.toNat (.iface 93 (ptr g)) (findO ob x) ∧ P.vals[x.2.toNat]? = some (.iface 93 (ptr g)) ∧ Reads w 71 #[ptr hp, wd x] (.tuple #[ptr g, .int .i64 0])) ∧ (findO ob x).map Ob.kind = some 2) ∨
    (Reads w 71 #[ptr hp, wd x] (.tuple #[.pointer none, .int .i64 6]) ∧ (findO ob x).map Ob.kind ≠ some 2) := by
  obtain ⟨v, hv, hvs, hr⟩ := find_any h x
  have hV := valid_any h
  match hf : findO ob x with
  | none =>
    rw [hf] at hv
    obtain rfl := hv
    exact .inr ⟨fun w' hb => get_cons_none hp x w' (fun w2 hb2 => hV w2 (hb.trans (hb2.mono hb.size))) (hr.below hb), by simp⟩
  | some (.cons a d) =>
    rw [hf] at hv
    have hv0 := hv
    obtain ⟨g, rfl, hg⟩ := hv
    exact .inl ⟨⟨g, hv0, hvs (by rw [hf]; simp), fun w' hb => get_cons_cons hp x _ w' (fun w2 hb2 => hV w2 (hb.trans (hb2.mono hb.size))) (hr.below hb)⟩, rfl⟩
  | some (.text s k) =>
    rw [hf] at hv
    obtain ⟨g, rfl, hg⟩ := hv
    exact .inr ⟨fun w' hb => get_cons_text hp x _ w' (fun w2 hb2 => hV w2 (hb.trans (hb2.mono hb.size))) (hr.below hb), by simp [Ob.kind]⟩
  | some (.vec l) =>
    rw [hf] at hv
    obtain ⟨g, r, rfl, hg⟩ := hv
    exact .inr ⟨fun w' hb => get_cons_vector hp x _ w' (fun w2 hb2 => hV w2 (hb.trans (hb2.mono hb.size))) (hr.below hb), by simp [Ob.kind]⟩
  | some (.code p q z b l) =>
    rw [hf] at hv
    obtain ⟨g, rb, rl, rfl, hg⟩ := hv
    exact .inr ⟨fun w' hb => get_cons_code hp x _ w' (fun w2 hb2 => hV w2 (hb.trans (hb2.mono hb.size))) (hr.below hb), by simp [Ob.kind]⟩
/-- get at *text: what it returns, by the object that the word refers to. -/
theorem get_text_any {w : World} {base hp lim : Nat} {ob : Obs} {lab : Nat → Option Lab} {P : Parts} (h : HeapIs w base hp lim ob lab P) (x : Wd) :
    ((∃ g, ObAt w lab x.2.toNat (.iface 110 (ptr g)) (findO ob x) ∧ P.vals[x.2.toNat]? = some (.iface 110 (ptr g)) ∧ Reads w 77 #[ptr hp, wd x] (.tuple #[ptr g, .int .i64 0])) ∧ (findO ob x).map Ob.kind = some 3) ∨
    (Reads w 77 #[ptr hp, wd x] (.tuple #[.pointer none, .int .i64 6]) ∧ (findO ob x).map Ob.kind ≠ some 3) := by
  obtain ⟨v, hv, hvs, hr⟩ := find_any h x
  have hV := valid_any h
  match hf : findO ob x with
  | none =>
    rw [hf] at hv
    obtain rfl := hv
    exact .inr ⟨fun w' hb => get_text_none hp x w' (fun w2 hb2 => hV w2 (hb.trans (hb2.mono hb.size))) (hr.below hb), by simp⟩
  | some (.cons a d) =>
    rw [hf] at hv
    obtain ⟨g, rfl, hg⟩ := hv
    exact .inr ⟨fun w' hb => get_text_cons hp x _ w' (fun w2 hb2 => hV w2 (hb.trans (hb2.mono hb.size))) (hr.below hb), by simp [Ob.kind]⟩
  | some (.text s k) =>
    rw [hf] at hv
    have hv0 := hv
    obtain ⟨g, rfl, hg⟩ := hv
    exact .inl ⟨⟨g, hv0, hvs (by rw [hf]; simp), fun w' hb => get_text_text hp x _ w' (fun w2 hb2 => hV w2 (hb.trans (hb2.mono hb.size))) (hr.below hb)⟩, rfl⟩
  | some (.vec l) =>
    rw [hf] at hv
    obtain ⟨g, r, rfl, hg⟩ := hv
    exact .inr ⟨fun w' hb => get_text_vector hp x _ w' (fun w2 hb2 => hV w2 (hb.trans (hb2.mono hb.size))) (hr.below hb), by simp [Ob.kind]⟩
  | some (.code p q z b l) =>
    rw [hf] at hv
    obtain ⟨g, rb, rl, rfl, hg⟩ := hv
    exact .inr ⟨fun w' hb => get_text_code hp x _ w' (fun w2 hb2 => hV w2 (hb.trans (hb2.mono hb.size))) (hr.below hb), by simp [Ob.kind]⟩
/-- get at *vector: what it returns, by the object that the word refers to. -/
theorem get_vector_any {w : World} {base hp lim : Nat} {ob : Obs} {lab : Nat → Option Lab} {P : Parts} (h : HeapIs w base hp lim ob lab P) (x : Wd) :
    ((∃ g, ObAt w lab x.2.toNat (.iface 189 (ptr g)) (findO ob x) ∧ P.vals[x.2.toNat]? = some (.iface 189 (ptr g)) ∧ Reads w 230 #[ptr hp, wd x] (.tuple #[ptr g, .int .i64 0])) ∧ (findO ob x).map Ob.kind = some 4) ∨
    (Reads w 230 #[ptr hp, wd x] (.tuple #[.pointer none, .int .i64 6]) ∧ (findO ob x).map Ob.kind ≠ some 4) := by
  obtain ⟨v, hv, hvs, hr⟩ := find_any h x
  have hV := valid_any h
  match hf : findO ob x with
  | none =>
    rw [hf] at hv
    obtain rfl := hv
    exact .inr ⟨fun w' hb => get_vector_none hp x w' (fun w2 hb2 => hV w2 (hb.trans (hb2.mono hb.size))) (hr.below hb), by simp⟩
  | some (.cons a d) =>
    rw [hf] at hv
    obtain ⟨g, rfl, hg⟩ := hv
    exact .inr ⟨fun w' hb => get_vector_cons hp x _ w' (fun w2 hb2 => hV w2 (hb.trans (hb2.mono hb.size))) (hr.below hb), by simp [Ob.kind]⟩
  | some (.text s k) =>
    rw [hf] at hv
    obtain ⟨g, rfl, hg⟩ := hv
    exact .inr ⟨fun w' hb => get_vector_text hp x _ w' (fun w2 hb2 => hV w2 (hb.trans (hb2.mono hb.size))) (hr.below hb), by simp [Ob.kind]⟩
  | some (.vec l) =>
    rw [hf] at hv
    have hv0 := hv
    obtain ⟨g, r, rfl, hg⟩ := hv
    exact .inl ⟨⟨g, hv0, hvs (by rw [hf]; simp), fun w' hb => get_vector_vector hp x _ w' (fun w2 hb2 => hV w2 (hb.trans (hb2.mono hb.size))) (hr.below hb)⟩, rfl⟩
  | some (.code p q z b l) =>
    rw [hf] at hv
    obtain ⟨g, rb, rl, rfl, hg⟩ := hv
    exact .inr ⟨fun w' hb => get_vector_code hp x _ w' (fun w2 hb2 => hV w2 (hb.trans (hb2.mono hb.size))) (hr.below hb), by simp [Ob.kind]⟩
end Go.Proofs.YtlibdhnlmekmhaaGreatDoor.Get
end
