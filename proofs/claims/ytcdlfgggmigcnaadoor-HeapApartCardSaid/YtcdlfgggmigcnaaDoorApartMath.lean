/- HeapApart: what the heaps of the law hold. -/
import Derived.Test.YtcdlfgggmigcnaaDoorOf
import Derived.Test.YtcdlfgggmigcnaaDoorElem
import Derived.Test.YtcdlfgggmigcnaaDoorMake2
import Derived.Test.YtcdlfgggmigcnaaDoorMake4
import Derived.Test.YtcdlfgggmigcnaaDoorQuick
namespace Go.Proofs.YtcdlfgggmigcnaaDoor.Apart
set_option maxRecDepth 100000
open Go.Proofs.YtcdlfgggmigcnaaDoor.Hp Go.Proofs.YtcdlfgggmigcnaaDoor.Rep Go.Proofs.YtcdlfgggmigcnaaDoor.Quick Go.Proofs.YtcdlfgggmigcnaaDoor.Add Go.Proofs.YtcdlfgggmigcnaaDoor.Make Go.Proofs.YtcdlfgggmigcnaaDoor.Elem

def apA (l : List Wd) : Obs := put noObs 0 (some (.vec l))
def apB (l : List Wd) : Obs := put (apA l) 1 (some (.code 0 0 0 [1, 2] l))
def apC (l : List Wd) (k : Nat) (x : Wd) : Obs := put (apB l) 0 (some (.vec (l.set k x)))

theorem ap_vec (l : List Wd) (h : l.length ≤ 60) : vecO noObs 9 l = ((4, 0), 0, apA l) := by
  unfold vecO addO
  rw [if_neg (by omega), if_pos ⟨by decide, by rw [usedTo_none]; simp only [Ob.size]; omega⟩]
  rfl
theorem ap_code (l : List Wd) (h : l.length ≤ 60) : codeO (apA l) 9 0 0 0 [1, 2] l = ((6, 1), 0, apB l) := by
  have hf : freeTo (apA l) 9 = 1 := rfl
  have hu : usedTo (apA l) 9 = l.length := by
    have := usedTo_put noObs 9 0 (some (.vec l)) (by omega)
    rw [usedTo_none] at this
    have e : usedTo (put noObs 0 (some (.vec l))) 9 = l.length := by simpa [sizeO, noObs, Ob.size] using this
    exact e
  unfold codeO addO
  rw [if_neg (by simp; omega), hf, hu, if_pos ⟨by decide, by simp only [Ob.size, List.length_cons, List.length_nil]; omega⟩]
  rfl
theorem ap_find0 (l : List Wd) : findO (apB l) (4, 0) = some (.vec l) := rfl
theorem ap_find1 (l : List Wd) : findO (apB l) (6, 1) = some (.code 0 0 0 [1, 2] l) := rfl
theorem ap_set (l : List Wd) (k : Nat) (x : Wd) (h : k < l.length) : setAtO (apB l) (4, 0) (k : Int) x = (0, apC l k x) := by
  unfold setAtO
  rw [ap_find0]
  simp only
  rw [if_neg (by omega)]
  rfl
theorem ap_vecOf (l : List Wd) : vecOfO (apB l) (4, 0) = (l, 0) := by
  unfold vecOfO
  rw [ap_find0]
theorem ap_codeOf (l : List Wd) : codeOfO (apB l) (6, 1) = ((0, 0, 0, [1, 2], l), 0) := by
  unfold codeOfO
  rw [ap_find1]
theorem ap_at (l : List Wd) (k : Nat) (x : Wd) (h : k < l.length) : atO (apC l k x) (4, 0) (k : Int) = (x, 0) := by
  have hf : findO (apC l k x) (4, 0) = some (.vec (l.set k x)) := rfl
  unfold atO
  rw [hf]
  simp only
  rw [if_neg (by rw [List.length_set]; omega)]
  simp [List.getD, h]
theorem ap_gone (f : Obs) : collected f [] = noObs := by
  funext n
  unfold collected
  have h : ¬ Hp.Reach f [] n := by
    intro hr
    have : ∀ m, Hp.Reach f [] m → False := by
      intro m hm
      induction hm with
      | root w o hw _ => simp at hw
      | step a p w o _ _ _ _ ih => exact ih
    exact this n hr
  rw [if_neg h]
  rfl
theorem ap_many (l : List Wd) : manyTo (apB l) 9 = 2 := rfl
theorem none_many (n : Nat) : manyTo noObs n = 0 := by
  induction n with
  | zero => rfl
  | succ n ih => simp only [manyTo, ih]; rfl

theorem codeOf_any {w : World} {base hp lim : Nat} {ob : Obs} {lab : Nat → Option Lab} {P : Parts} (h : HeapIs w base hp lim ob lab P) (x : Wd) (p q z : Int) (b : List Int) (l : List Wd) (hf : findO ob x = some (.code p q z b l)) :
    Calls Tryd.prog 39 #[Get.ptr hp, wd x] w fun e w' => (∃ vb vl, e = .returned (.tuple #[.agg #[.int .i64 p, .int .i64 q, .int .i64 z, vb, vl], .int .i64 0]) ∧ w'.ownsRow w.heap.size 5 1 vb b.length (bcells b) ∧ w'.ownsRow w.heap.size 28 2 vl l.length (wcells l) ∧ (∀ k, vb.ownBlock = some k → vl.ownBlock ≠ some k)) ∧ RowKit.Below w.heap.size w w' := by
  rcases Get.get_code_any h x with ⟨⟨g, ho, _, hr⟩, _⟩ | ⟨hr, hk⟩
  · rw [hf] at ho
    obtain ⟨g', rb, rl, hv, _, hB, hrb, hrl⟩ := ho
    simp at hv
    subst hv
    have hsm : b.length ≤ 65536 ∧ l.length ≤ 65536 := by
      obtain ⟨_, h1, _⟩ := findO_some hf
      have := h.small x.2.toNat
      rw [h1] at this
      exact this
    exact codeOf_yes hp g p q z rb rl b l x w hr hB (Go.Proofs.YtcdlfgggmigcnaaDoor.Clone.SlAt.reads hrb) (Go.Proofs.YtcdlfgggmigcnaaDoor.Clone.SlAt.reads hrl) hsm.2 hsm.1
  · rw [hf] at hk
    simp [Ob.kind] at hk
end Go.Proofs.YtcdlfgggmigcnaaDoor.Apart
