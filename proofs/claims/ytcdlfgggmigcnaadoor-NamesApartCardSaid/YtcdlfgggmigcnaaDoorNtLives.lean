/- The chapter's example, which each statement of layer 3 asks first. -/
import Derived.Test.YtcdlfgggmigcnaaDoorNtNew
namespace Go.Proofs.YtcdlfgggmigcnaaDoor.Nt
set_option maxRecDepth 100000
open Go.RowKit
open Go.Lib (validD)
open Go.Proofs.YtcdlfgggmigcnaaDoor.Own Go.Proofs.YtcdlfgggmigcnaaDoor.Strs

/-- A table that has been made behind w. -/
def St (w wr : World) (tp : Nat) (t : Tb) : Prop := ∃ lab P, TabIs wr w.heap.size tp t lab P ∧ Below w.heap.size w wr
theorem St.later {w wr w' : World} {tp : Nat} {t : Tb} (h : St w wr tp t) (hb : Below wr.heap.size wr w') : St w w' tp t := by
  obtain ⟨lab, P, h1, h2⟩ := h
  exact ⟨lab, P, h1.below hb, h2.trans (hb.mono h2.size)⟩
theorem St.bel {w wr : World} {tp : Nat} {t : Tb} (h : St w wr tp t) : Below w.heap.size w wr := by
  obtain ⟨lab, P, h1, h2⟩ := h
  exact h2
theorem St.ok {w wr w' : World} {tp : Nat} {t t' : Tb} {lab : Nat → Option TLab} {P : TParts} (h1 : TabIs wr w.heap.size tp t lab P) (h2 : Below w.heap.size w wr) (h : TabOk wr w' w.heap.size tp t' lab) : St w w' tp t' := by
  obtain ⟨lab', P', h3, h4⟩ := h
  exact ⟨lab', P', h3, h2.trans (h4.bel h1 h2.size)⟩
theorem St.new (w : World) (hT : Tabs w) : Calls Tryd.prog 43 #[] w fun e w' => e = .returned (tptr (w.heap.size + 1)) ∧ St w w' (w.heap.size + 1) t0 :=
  (new_any w hT).mono fun _ _ ⟨he, hb, lab, P, h⟩ => ⟨he, lab, P, h, hb⟩
theorem St.intern {w wr : World} {tp : Nat} {t : Tb} (h : St w wr tp t) (hT : Tabs w) (s : ByteArray) (hs : s.size ≤ 4611686018427387904) :
    Calls Tryd.prog 46 #[tptr tp, .string s] wr fun e w' => e = .returned (.tuple #[.int .i64 (internO t s).1, .int .i64 (internO t s).2.1]) ∧ St w w' tp (internO t s).2.2 := by
  obtain ⟨lab, P, h1, h2⟩ := h
  exact (intern_any h1 h2.size s hs (hT.below h2)).mono fun _ _ ⟨he, ho⟩ => ⟨he, .ok h1 h2 ho⟩
theorem St.fresh {w wr : World} {tp : Nat} {t : Tb} (h : St w wr tp t) (hT : Tabs w) (s : ByteArray) (hs : s.size ≤ 4611686018427387904) :
    Calls Tryd.prog 48 #[tptr tp, .string s] wr fun e w' => e = .returned (.tuple #[.int .i64 (freshO t s).1, .int .i64 (freshO t s).2.1]) ∧ St w w' tp (freshO t s).2.2 := by
  obtain ⟨lab, P, h1, h2⟩ := h
  exact (fresh_any h1 h2.size s hs (hT.below h2)).mono fun _ _ ⟨he, ho⟩ => ⟨he, .ok h1 h2 ho.ok⟩
theorem St.find {w wr : World} {tp : Nat} {t : Tb} (h : St w wr tp t) (s : ByteArray) (hs : s.size ≤ 4611686018427387904) :
    Calls Tryd.prog 58 #[tptr tp, .string s] wr fun e w' => e = .returned (.tuple #[.int .i64 (((t.find s).getD 0 : Nat) : Int), .bool (t.find s).isSome]) ∧ wr = w' := by
  obtain ⟨lab, P, h1, h2⟩ := h
  exact find_any h1 s (by unfold maxLen; omega)
theorem St.many {w wr : World} {tp : Nat} {t : Tb} (h : St w wr tp t) :
    Calls Tryd.prog 50 #[tptr tp] wr fun e w' => e = .returned (.int .i64 (t.syms.length : Int)) ∧ wr = w' := by
  obtain ⟨lab, P, h1, h2⟩ := h
  exact many_any h1

def car : ByteArray := ⟨#[99, 97, 114]⟩
theorem car_good : Good car := by
  have h : (validD car.data.toList && decide (lenL car.data.toList ≤ 1000)) = true := by kernel_rfl
  simp only [Bool.and_eq_true, decide_eq_true_eq] at h
  exact h
theorem car_none : t0.find car = none := by kernel_rfl
def t1 : Tb := ⟨t0.syms ++ [newSy car], upd t0.find car 62⟩
def t2 : Tb := ⟨t1.syms ++ [newSy car], t1.find⟩
theorem step1 : internO t0 car = (62, 0, t1) := by
  rw [internO_new car_none car_good (by rw [t0_length]; omega), t0_length]
  rfl
theorem t1_find : t1.find car = some 62 := by unfold t1 upd; simp
theorem step2 : internO t1 car = (62, 0, t1) := by
  unfold internO
  rw [t1_find]
  rfl
theorem t1_length : t1.syms.length = 63 := by unfold t1; rw [List.length_append, t0_length]; rfl
theorem step3 : freshO t1 car = (63, 0, t2) := by
  rw [freshO_new car_good (by rw [t1_length]; omega), t1_length]
  rfl

set_option maxHeartbeats 4000000 in
theorem lives_any (w : World) (hT : Tabs w) : Calls Tryd.prog 42 #[] w fun e w' => e = .returned (.bool true) ∧ Below w.heap.size w w' := by
  have HN := Lib.hid (St.new w hT)
  have HT := Lib.hid hT
  clear hT
  obtain ⟨tp, htp⟩ : ∃ tp, w.heap.size + 1 = tp := ⟨_, rfl⟩
  rw [htp] at HN
  clear htp
  go_enter Tryd.func42, Tryd.ntmps42
  go_wp2_with fail
  refine HN.out.mono ?_
  rintro e w1 ⟨rfl, h1⟩
  have c1 := h1.intern HT.out car (by decide)
  rw [step1] at c1
  have C1 := Lib.hid c1
  clear h1 c1
  go_wp2_with fail
  refine C1.out.mono ?_
  rintro e w2 ⟨rfl, h2⟩
  have c2 := h2.intern HT.out car (by decide)
  rw [step2] at c2
  have C2 := Lib.hid c2
  clear h2 c2 C1
  go_wp2_with fail
  refine C2.out.mono ?_
  rintro e w3 ⟨rfl, h3⟩
  have c3 := h3.fresh HT.out car (by decide)
  rw [step3] at c3
  have C3 := Lib.hid c3
  clear h3 c3 C2
  go_wp2_with fail
  refine C3.out.mono ?_
  rintro e w4 ⟨rfl, h4⟩
  have c4 := h4.find car (by decide)
  rw [show t2.find car = some 62 from t1_find] at c4
  have C4 := Lib.hid c4
  have H4 := Lib.hid h4.bel
  clear h4 c4 C3
  go_wp2_with fail
  refine C4.out.mono ?_
  rintro e w5 ⟨rfl, rfl⟩
  go_wp2_with fail
  go_ret
  exact ⟨rfl, H4.out⟩
end Go.Proofs.YtcdlfgggmigcnaaDoor.Nt
