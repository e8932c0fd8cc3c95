/- The contracts of the reference's functions on characters: they return what the program's return. -/
import Derived.Deep.LoopGhost
import Derived.Great.BuildSlice
import Derived.Test.YtlibdhnlmekmhaaGreatDoorMh06
namespace Go.Proofs.YtlibdhnlmekmhaaGreatDoor.RefChars
set_option maxRecDepth 100000
open Go.RowKit Go.Shelf Go.Lib
open Go.Proofs.YtlibdhnlmekmhaaGreatDoor.Chars Go.Proofs.YtlibdhnlmekmhaaGreatDoor.Spans

def noneL : List Int := [768, 879, 1155, 1161, 1425, 1469, 8203, 8207, 8400, 8447, 65024, 65039, 65056, 65071]
def twoL : List Int := [0, 8, 10, 31, 127, 127, 4352, 4447, 11904, 12350, 12353, 42191, 44032, 55203, 63744, 64255, 65072, 65135, 65280, 65376, 65504, 65510, 127744, 128591, 129280, 129535, 131072, 262141]
def wordL : List Int := [48, 57, 65, 90, 97, 122, 170, 170, 181, 181, 186, 186, 192, 214, 216, 246, 248, 591, 768, 893, 895, 902, 904, 1023, 1024, 1327, 1488, 1514, 12353, 12543, 13312, 40959, 44032, 55203, 131072, 262141]

/-- Whether a number is within one of some ranges, given as pairs of their ends. -/
def inL : List Int → Int → Bool
  | a :: b :: r, c => (decide (a ≤ c) && decide (c ≤ b)) || inL r c
  | _, _ => false

theorem inL_drop (zs : List Int) (k : Nat) (c : Int) (h : k + 1 < zs.length) : inL (zs.drop k) c = ((decide (zs.getD k 0 ≤ c) && decide (c ≤ zs.getD (k + 1) 0)) || inL (zs.drop (k + 2)) c) := by
  rw [List.drop_eq_getElem_cons (by omega : k < zs.length), List.drop_eq_getElem_cons (by omega : k + 1 < zs.length), inL]
  simp [List.getD, List.getElem?_eq_getElem h, List.getElem?_eq_getElem (show k < zs.length by omega)]
theorem inL_end (zs : List Int) (k : Nat) (c : Int) (h : ¬ k + 1 < zs.length) : inL (zs.drop k) c = false := by
  have hl : (zs.drop k).length ≤ 1 := by rw [List.length_drop]; omega
  match hm : zs.drop k, hl with
  | [], _ => rfl
  | [_], _ => rfl
  | _ :: _ :: _, h2 => simp at h2

set_option maxHeartbeats 400000 in
theorem ref_is_any (c : Int) (w : World) :
    Calls Tryz.prog 76 #[.int .i64 c] w fun e w' => e = .returned (.bool (isZ c)) ∧ w = w' := by
  by_cases a0 : 0 ≤ c
  · by_cases a1 : c ≤ 1114111
    · by_cases a2 : c < 55296
      · have hz : isZ c = true := by simp [isZ]; omega
        rw [hz]
        clear hz
        go_enter Tryz.func76, Tryz.ntmps76
        go_wp2
        go_ret
        exact ⟨rfl, rfl⟩
      · by_cases a3 : 57343 < c
        · have hz : isZ c = true := by simp [isZ]; omega
          rw [hz]
          clear hz
          go_enter Tryz.func76, Tryz.ntmps76
          go_wp2
          go_ret
          exact ⟨rfl, rfl⟩
        · have hz : isZ c = false := by simp [isZ]; omega
          rw [hz]
          clear hz
          go_enter Tryz.func76, Tryz.ntmps76
          go_wp2
          go_ret
          exact ⟨rfl, rfl⟩
    · have hz : isZ c = false := by simp [isZ]; omega
      rw [hz]
      clear hz
      go_enter Tryz.func76, Tryz.ntmps76
      go_wp2
      go_ret
      exact ⟨rfl, rfl⟩
  · have hz : isZ c = false := by simp [isZ]; omega
    rw [hz]
    clear hz
    go_enter Tryz.func76, Tryz.ntmps76
    go_wp2
    go_ret
    exact ⟨rfl, rfl⟩


theorem row_new (w : World) (zs : List Int) (t : TypeId) (j : Nat) (h : j < zs.length) : (w.alloc (.cells (zs.map (Value.int .i64)).toArray t)).cell? ⟨w.heap.size, j, none⟩ = some (.int .i64 (zs.getD j 0)) := by
  rw [World.cell?_alloc_at _ _ _ _ (by simp)]
  simp [List.getD, List.getElem?_eq_getElem h]
theorem cell_more {w : World} {p : Addr} {v : Value} (h : w.cell? p = some v) (o : Obj) : (w.alloc o).cell? p = some v := by
  rw [World.cell?_alloc_lt w o p (World.block_lt_of_cell? _ _ h)]; exact h

theorem down_pick (c : Int) : downZ c = if (upZ (c + 32) != c + 32) = true ∧ upZ (c + 32) = c then c + 32 else if (upZ (c + 80) != c + 80) = true ∧ upZ (c + 80) = c then c + 80 else c := by
  have g1 := up_cases (c + 32)
  have g2 := up_cases (c + 80)
  rcases down_cases c with h | h | h | h | h | h | h | h
  · rw [if_pos ⟨bne_iff_ne.2 (by omega), by omega⟩]; exact h.2.2
  · rw [if_pos ⟨bne_iff_ne.2 (by omega), by omega⟩]; exact h.2.2
  · rw [if_pos ⟨bne_iff_ne.2 (by omega), by omega⟩]; exact h.2.2
  · rw [if_pos ⟨bne_iff_ne.2 (by omega), by omega⟩]; exact h.2.2
  · rw [if_pos ⟨bne_iff_ne.2 (by omega), by omega⟩]; exact h.2.2
  · rw [if_neg (fun k => by have := bne_iff_ne.1 k.1; have := k.2; omega), if_pos ⟨bne_iff_ne.2 (by omega), by omega⟩]; exact h.2.2
  · rw [if_pos ⟨bne_iff_ne.2 (by omega), by omega⟩]; exact h.2.2
  · rw [if_neg (fun k => by have := bne_iff_ne.1 k.1; have := k.2; omega), if_neg (fun k => by have := bne_iff_ne.1 k.1; have := k.2; omega)]; exact h.2.2.2.2.2.2

end Go.Proofs.YtlibdhnlmekmhaaGreatDoor.RefChars
