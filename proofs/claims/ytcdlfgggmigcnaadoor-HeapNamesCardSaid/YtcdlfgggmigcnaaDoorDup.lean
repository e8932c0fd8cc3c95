/- The contract of duplicate. -/
import Derived.Test.YtcdlfgggmigcnaaDoorMake4
import Derived.Deep.RegionHeld3
namespace Go.Proofs.YtcdlfgggmigcnaaDoor.Dup
set_option maxRecDepth 100000
open Go.RowKit
open Go.Proofs.YtcdlfgggmigcnaaDoor.Own Go.Proofs.YtcdlfgggmigcnaaDoor.Hp Go.Proofs.YtcdlfgggmigcnaaDoor.HeapOrd Go.Proofs.YtcdlfgggmigcnaaDoor.Rep Go.Proofs.YtcdlfgggmigcnaaDoor.Base Go.Proofs.YtcdlfgggmigcnaaDoor.Get Go.Proofs.YtcdlfgggmigcnaaDoor.Size Go.Proofs.YtcdlfgggmigcnaaDoor.Add Go.Proofs.YtcdlfgggmigcnaaDoor.Clone Go.Proofs.YtcdlfgggmigcnaaDoor.Make Go.Proofs.YtcdlfgggmigcnaaDoor.CloneC

/-- Labels for blocks of one number that are new behind a world. -/
structure Fresh (w W : World) (n : Nat) (labO : Nat → Option Lab) : Prop where
  inb : ∀ b l, labO b = some l → w.heap.size ≤ b ∧ b < W.heap.size
  for_ : ∀ b l, labO b = some l → l.for = some n
/-- What duplicate returns. -/
def DupOk (w W : World) (n : Nat) (v : Value) (o : Option Ob) : Prop := ∃ labO, Fresh w W n labO ∧ ObAt W labO n v o

theorem fresh1 {w W : World} {g n : Nat} (h1 : w.heap.size ≤ g) (h2 : g < W.heap.size) : Fresh w W n (lab1 g n) := by
  refine ⟨fun b l hb => ?_, fun b l hb => ?_⟩ <;> unfold lab1 at hb <;> split at hb
  · rename_i e; subst e; exact ⟨h1, h2⟩
  · cases hb
  · cases hb; rfl
  · cases hb
theorem fresh2 {w W : World} {g n : Nat} {rv : Value} (h1 : w.heap.size ≤ g) (h2 : g < W.heap.size) (hr : ∀ b, rv.ownBlock = some b → w.heap.size ≤ b ∧ b < W.heap.size) : Fresh w W n (lab2 g n rv) := by
  refine ⟨fun b l hb => ?_, fun b l hb => ?_⟩ <;> unfold lab2 at hb <;> split at hb
  · rename_i e; subst e; exact ⟨h1, h2⟩
  · split at hb
    · rename_i e; exact hr b e
    · cases hb
  · cases hb; rfl
  · split at hb
    · cases hb; rfl
    · cases hb

theorem dup_none (n : Nat) (w : World) : Calls Tryd.prog 76 #[.nilIface] w fun e w' => (∃ v, e = .returned v ∧ DupOk w w' n v none) ∧ Below w.heap.size w w' := by
  have a1 := as_nil_cons
  have a2 := as_nil_text
  have a3 := as_nil_vector
  have a4 := as_nil_code
  go_enter Tryd.func76, Tryd.ntmps76
  go_wp2_with fail
  go_ret
  exact ⟨⟨_, rfl, fun _ => none, ⟨fun b l hb => (by cases hb), fun b l hb => (by cases hb)⟩, rfl⟩, Below.refl _ _⟩
set_option maxHeartbeats 1000000 in
theorem dup_cons (n g : Nat) (a d : Wd) (w : World) (hB : Blk w g #[.int .i64 a.1, .int .i64 a.2, .int .i64 d.1, .int .i64 d.2] 110) :
    Calls Tryd.prog 76 #[.iface 108 (ptr g)] w fun e w' => (∃ v, e = .returned v ∧ DupOk w w' n v (some (.cons a d))) ∧ Below w.heap.size w w' := by
  have a1 := as_cons_cons
  obtain ⟨c0, c1, c2, c3⟩ := hB.four
  have HC := Lib.hid (fun W (hb : Below w.heap.size w W) => (hB.below hb).four)
  have HF : ∃ H : Below w.heap.size w w.drew, True := ⟨(Below.refl _ _).drew, trivial⟩
  clear hB
  go_enter Tryd.func76, Tryd.ntmps76
  go_wp2_with fail
  go_region_held3 (fun w' => w'.cell? ⟨g, 0, none⟩ = some (.int .i64 a.1) ∧ w'.cell? ⟨g, 1, none⟩ = some (.int .i64 a.2) ∧ w'.cell? ⟨g, 2, none⟩ = some (.int .i64 d.1) ∧ w'.cell? ⟨g, 3, none⟩ = some (.int .i64 d.2))
    (first | exact HC.out _ (Below.refl _ _).drew | exact HC.out _ ((Below.refl _ _).drew.alloc (Nat.le_refl _) _))
    (fail)
  go_wp2_with fail
  go_ret
  have hb := (Below.refl w.heap.size w).drew.alloc (Nat.le_refl _) (.cells #[.int .i64 a.1, .int .i64 a.2, .int .i64 d.1, .int .i64 d.2] 110)
  exact ⟨⟨_, rfl, lab1 w.heap.size n, fresh1 (Nat.le_refl _) (by simp), ⟨_, rfl, by simp [lab1], Blk.new w.drew _ _⟩⟩, hb⟩
set_option maxHeartbeats 1000000 in
theorem dup_text (n g : Nat) (s : ByteArray) (k : Nat) (w : World) (hB : Blk w g #[.string s, .int .i64 (k : Int)] 114) :
    Calls Tryd.prog 76 #[.iface 112 (ptr g)] w fun e w' => (∃ v, e = .returned v ∧ DupOk w w' n v (some (.text s k))) ∧ Below w.heap.size w w' := by
  have a1 := as_text_cons
  have a2 := as_text_text
  have HC := Lib.hid (fun W (hb : Below w.heap.size w W) => And.intro ((hB.below hb).cell 0 _ rfl) ((hB.below hb).cell 1 _ rfl))
  clear hB
  go_enter Tryd.func76, Tryd.ntmps76
  go_wp2_with fail
  go_region_held3 (fun w' => w'.cell? ⟨g, 0, none⟩ = some (.string s) ∧ w'.cell? ⟨g, 1, none⟩ = some (.int .i64 (k : Int)))
    (first | exact HC.out _ (Below.refl _ _).drew | exact HC.out _ ((Below.refl _ _).drew.alloc (Nat.le_refl _) _))
    (fail)
  go_wp2_with fail
  go_ret
  have hb := (Below.refl w.heap.size w).drew.alloc (Nat.le_refl _) (.cells #[.string s, .int .i64 (k : Int)] 114)
  exact ⟨⟨_, rfl, lab1 w.heap.size n, fresh1 (Nat.le_refl _) (by simp), ⟨_, rfl, by simp [lab1], Blk.new w.drew _ _⟩⟩, hb⟩
set_option maxHeartbeats 1000000 in
theorem dup_vec (n g : Nat) (r : Value) (l : List Wd) (w : World) (hB : Blk w g #[r] 121) (hr : SlR w r l.length (wcells l)) (hl : l.length ≤ 65536) :
    Calls Tryd.prog 76 #[.iface 119 (ptr g)] w fun e w' => (∃ v, e = .returned v ∧ DupOk w w' n v (some (.vec l))) ∧ Below w.heap.size w w' := by
  have a1 := as_vector_cons
  have a2 := as_vector_text
  have a3 := as_vector_vector
  have c0 := hB.cell 0 _ rfl
  have HC := Lib.hid (cloneW_any r _ _ w hr (wcells_length l) (wcells_one l) (by omega))
  clear hB hr
  go_enter Tryd.func76, Tryd.ntmps76
  go_wp2_with fail
  refine HC.out.mono ?_
  rintro e w1 ⟨⟨v, rfl, ho⟩, hb⟩
  obtain ⟨A, c, rfl⟩ := slice_of' ho
  have HO := Lib.hid ho
  have HB := Lib.hid hb
  clear ho hb
  go_wp2_with fail
  go_ret
  have hb2 := HB.out.alloc HB.out.size (.cells #[.slice A l.length c] 121)
  have hs := HB.out.size
  have h2 := fresh2 (w := w) (W := w1.alloc (.cells #[.slice A l.length c] 121)) (n := n) (rv := .slice A l.length c) hs (by simp) (fun b e => by have := HO.out.lt b e; simp; omega)
  refine ⟨⟨_, rfl, lab2 w1.heap.size n (.slice A l.length c), h2, ⟨w1.heap.size, .slice A l.length c, rfl, by simp [lab2], Blk.new _ _ _, SlAt.of_owns (owns_below HO.out ((Below.refl _ _).alloc (Nat.le_refl _) _)) fun b e => ?_⟩⟩, hb2⟩
  have := (HO.out.lt b e).2
  unfold lab2
  rw [if_neg (by omega), if_pos e]

theorem fresh3 {w W : World} {g n : Nat} {rb rl : Value} (h1 : w.heap.size ≤ g) (h2 : g < W.heap.size) (hb : ∀ b, rb.ownBlock = some b → w.heap.size ≤ b ∧ b < W.heap.size) (hl : ∀ b, rl.ownBlock = some b → w.heap.size ≤ b ∧ b < W.heap.size) : Fresh w W n (lab3 g n rb rl) := by
  refine ⟨fun b l hb' => ?_, fun b l hb' => ?_⟩ <;> unfold lab3 at hb' <;> split at hb'
  · rename_i e; subst e; exact ⟨h1, h2⟩
  · split at hb'
    · rename_i e; exact hl b e
    · split at hb'
      · rename_i e; exact hb b e
      · cases hb'
  · cases hb'; rfl
  · split at hb'
    · cases hb'; rfl
    · split at hb'
      · cases hb'; rfl
      · cases hb'
set_option maxHeartbeats 2000000 in
theorem dup_code (n g : Nat) (p q z : Int) (rb rl : Value) (b : List Int) (l : List Wd) (w : World) (hB : Blk w g #[.int .i64 p, .int .i64 q, .int .i64 z, rb, rl] 135) (hrb : SlR w rb b.length (bcells b)) (hrl : SlR w rl l.length (wcells l)) (hbl : b.length ≤ 65536) (hl : l.length ≤ 65536) :
    Calls Tryd.prog 76 #[.iface 132 (ptr g)] w fun e w' => (∃ v, e = .returned v ∧ DupOk w w' n v (some (.code p q z b l))) ∧ Below w.heap.size w w' := by
  have a1 := as_code_cons
  have a2 := as_code_text
  have a3 := as_code_vector
  have a4 := as_code_code
  obtain ⟨⟨c0, c1, c2, c3, c4⟩, -⟩ := Blk.five hB
  have HC := Lib.hid (clone_core p q z rb rl _ _ _ _ w hrb hrl (by simp [bcells]) (wcells_length l) (bcells_one b) (wcells_one l) hbl hl)
  clear hB hrb hrl
  go_enter Tryd.func76, Tryd.ntmps76
  go_wp2_with fail
  refine HC.out.mono ?_
  rintro e w1 ⟨⟨vb, vl, rfl, hob, hol, hdis⟩, hb⟩
  obtain ⟨A1, e1, rfl⟩ := slice_of' hob
  obtain ⟨A2, e2, rfl⟩ := slice_of' hol
  have HO := Lib.hid (And.intro hob (And.intro hol hdis))
  have HB := Lib.hid hb
  clear hob hol hdis hb
  go_wp2_with fail
  go_ret
  have hb2 := HB.out.alloc HB.out.size (.cells #[.int .i64 p, .int .i64 q, .int .i64 z, .slice A1 b.length e1, .slice A2 l.length e2] 135)
  have hs := HB.out.size
  have h3 := fresh3 (w := w) (W := w1.alloc (.cells #[.int .i64 p, .int .i64 q, .int .i64 z, .slice A1 b.length e1, .slice A2 l.length e2] 135)) (n := n) (rb := .slice A1 b.length e1) (rl := .slice A2 l.length e2) hs (by simp) (fun b e => by have := HO.out.1.lt b e; simp; omega) (fun b e => by have := HO.out.2.1.lt b e; simp; omega)
  refine ⟨⟨_, rfl, lab3 w1.heap.size n (.slice A1 b.length e1) (.slice A2 l.length e2), h3, ⟨w1.heap.size, .slice A1 b.length e1, .slice A2 l.length e2, rfl, by simp [lab3], Blk.new _ _ _, SlAt.of_owns (owns_below HO.out.1 ((Below.refl _ _).alloc (Nat.le_refl _) _)) fun b e => ?_, SlAt.of_owns (owns_below HO.out.2.1 ((Below.refl _ _).alloc (Nat.le_refl _) _)) fun b e => ?_⟩⟩, hb2⟩
  · have := (HO.out.1.lt b e).2
    unfold lab3
    rw [if_neg (by omega), if_neg (HO.out.2.2 b e), if_pos e]
  · have := (HO.out.2.1.lt b e).2
    unfold lab3
    rw [if_neg (by omega), if_pos e]
theorem dup_any {w : World} {lab : Nat → Option Lab} {n m : Nat} {v : Value} {o : Option Ob} (h : ObAt w lab n v o) (hs : Small o) :
    Calls Tryd.prog 76 #[v] w fun e w' => (∃ v', e = .returned v' ∧ DupOk w w' m v' o) ∧ Below w.heap.size w w' := by
  cases o with
  | none =>
    obtain rfl := h
    exact dup_none m w
  | some o =>
    cases o with
    | cons a d =>
      obtain ⟨g, rfl, _, hB⟩ := h
      exact dup_cons m g a d w hB
    | text s k =>
      obtain ⟨g, rfl, _, hB⟩ := h
      exact dup_text m g s k w hB
    | vec l =>
      obtain ⟨g, r, rfl, _, hB, hr⟩ := h
      exact dup_vec m g r l w hB (Clone.SlAt.reads hr) hs
    | code p q z b l =>
      obtain ⟨g, rb, rl, rfl, _, hB, hrb, hrl⟩ := h
      exact dup_code m g p q z rb rl b l w hB (Clone.SlAt.reads hrb) (Clone.SlAt.reads hrl) hs.1 hs.2
end Go.Proofs.YtcdlfgggmigcnaaDoor.Dup
