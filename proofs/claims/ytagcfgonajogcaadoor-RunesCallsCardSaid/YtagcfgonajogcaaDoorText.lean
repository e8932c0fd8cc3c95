/- The contract of runes.Text. -/
import Derived.Test.YtagcfgonajogcaaDoorBuild
import Derived.Test.YtagcfgonajogcaaDoorSame
import Derived.Test.YtagcfgonajogcaaDoorChars2
import Derived.Test.YtagcfgonajogcaaDoorCase
import Derived.Test.YtagcfgonajogcaaDoorUtf2
namespace Go.Proofs.YtagcfgonajogcaaDoor.Txt
open Go.RowKit Go.Shelf Go.Lib
open Go.Proofs.YtagcfgonajogcaaDoor.Utf Go.Proofs.YtagcfgonajogcaaDoor.Lst Go.Proofs.YtagcfgonajogcaaDoor.Chars Go.Proofs.YtagcfgonajogcaaDoor.Build

theorem text_long (v : Value) (l : List Int) (w : World) (h : IntSl w v l) (hl : 65536 < l.length) (hm : l.length ≤ 9223372036854775807) :
    Calls Tryd.prog 12 #[v] w fun e w' => e = .returned (.tuple #[.string ⟨#[]⟩, .int .i64 4]) ∧ Below w.heap.size w w' := by
  obtain ⟨A, cap, rfl, _, _⟩ := h
  have hz : (65536 : Int) < l.length := by omega
  generalize l.length = n at *
  go_enter Tryd.func12, Tryd.ntmps12
  go_wp2
  go_ret2
  exact ⟨rfl, Below.refl _ _⟩

theorem isZ_isC (c : Int) : isZ c = true ↔ isC c := isZ_iff c
theorem byteCells_append (a b : List UInt8) : byteCells (a ++ b) = byteCells a ++ byteCells b := by simp [byteCells]
theorem byteCells_length (a : List UInt8) : (byteCells a).length = a.length := by simp [byteCells]
theorem enc_le : ∀ (R : List Int), (enc R).length ≤ 4 * R.length
  | [] => by simp [enc]
  | c :: R => by
    have := enc_le R
    have := (encode_length c).2
    rw [enc_cons, List.length_append, List.length_cons]
    omega

/-- What Text leaves of a list of at most 65,536 integers. -/
def TextsTo (w : World) (l : List Int) (e : Ending) (w' : World) : Prop :=
  (((∀ c ∈ l, isC c) ∧ e = .returned (.tuple #[.string (strOf (enc l)), .int .i64 0])) ∨ ((¬ ∀ c ∈ l, isC c) ∧ e = .returned (.tuple #[.string ⟨#[]⟩, .int .i64 3]))) ∧ Below w.heap.size w w'

theorem fresh (w : World) : Lib.IsBuilderF 47 5 w.heap.size w.heap.size [] (w.alloc (.cells #[.pointer none, .slice none 0 0] 47)) :=
  .inl ⟨Nat.le_refl _, .slice none 0 0, heap_alloc_new w _, ⟨by simp, .inl ⟨rfl, rfl⟩⟩, by simp [Value.ownBlock]⟩

set_option maxHeartbeats 2000000 in
theorem text_any (v : Value) (l : List Int) (w : World) (h : IntSl w v l) (hl : l.length ≤ 65536) :
    Calls Tryd.prog 12 #[v] w (TextsTo w l) := by
  obtain ⟨A, cap, rfl, _, hr⟩ := h
  have Hr := Lib.hid hr
  have HF := Lib.hid (fresh w)
  obtain ⟨n, hn⟩ : ∃ n, l.length = n := ⟨_, rfl⟩
  have Hn := Lib.hid hn
  unfold TextsTo
  have hz : ¬ (65536 : Int) < n := by omega
  rw [hn]
  rw [hn] at hl
  clear hr hn
  go_enter Tryd.func12, Tryd.ntmps12
  go_wp2
  go_loopw [12] (fun s wr => ∃ k : Nat, s = .int .i64 (k : Int) ∧ k ≤ n ∧ Hid (∀ c ∈ l.take k, isC c) ∧ Lib.IsBuilderF 47 5 w.heap.size w.heap.size (byteCells (enc (l.take k))) wr ∧ Below w.heap.size w wr) (fun s _ => n - (intOf s).toNat)
  case atStart => exact ⟨0, rfl, Nat.zero_le _, (fun c hc => by simp at hc), HF.out, (Below.refl _ _).alloc (Nat.le_refl _) _⟩
  case round =>
    obtain ⟨k, rfl, hk, HC, hB, hb⟩ := hrel
    by_cases hlt : k < n
    · have hltz : (k : Int) < n := by omega
      obtain ⟨g, off, rfl, hcell⟩ := Hr.out (by rw [Hn.out]; omega)
      have hc0 := hcell k (by rw [Hn.out]; exact hlt)
      have hc1 : wr.cell? ⟨g, off + k, none⟩ = some (.int .i64 (l.getD k 0)) := (hb.cell (World.block_lt_of_cell? _ _ hc0)).trans hc0
      have hget : l[k]? = some (l.getD k 0) := by simp [List.getD, List.getElem?_eq_getElem (show k < l.length by rw [Hn.out]; exact hlt)]
      have htk : l.take (k + 1) = l.take k ++ [l.getD k 0] := by
        conv => lhs; rw [List.take_add_one, hget]
        rfl
      have hmem : l.getD k 0 ∈ l := List.mem_of_getElem? hget
      obtain ⟨c, hc⟩ : ∃ c, l.getD k 0 = c := ⟨_, rfl⟩
      rw [hc] at hc1 htk hmem
      have Htk := Lib.hid htk
      have Hmem := Lib.hid hmem
      have HI := Lib.hid (is_any c wr)
      clear hc0 hget htk hmem hc hcell
      cases hz2 : isZ c
      · have hno : ¬ isC c := fun hh => by rw [(isZ_isC c).2 hh] at hz2; cases hz2
        rw [hz2] at HI
        have Hno : Hid (¬ ∀ c ∈ l, isC c) := fun hh => hno (hh c Hmem.out)
        clear hno hz2
        go_wp2_with (go_at_call 21; refine HI.out.mono ?_; rintro e w1 ⟨rfl, rfl⟩)
        go_ret2
        exact ⟨.inr ⟨Hno.out, rfl⟩, hb⟩
      · have hyes : isC c := (isZ_isC c).1 hz2
        rw [hz2] at HI
        obtain ⟨y0, y1, _⟩ := hyes
        have hlen : (byteCells (enc (l.take k))).length + 4 ≤ 140737488355328 := by
          rw [byteCells_length]
          have h1 := enc_le (l.take k)
          have h2 : (l.take k).length ≤ k := List.length_take_le _ _
          omega
        have HW := Lib.hid (writeRune w.heap.size w.heap.size _ c (by omega) (by omega) wr hB hlen hb.size)
        have HC2 : Hid (∀ c ∈ l.take (k + 1), isC c) := by
          show ∀ c ∈ l.take (k + 1), isC c
          intro x hx
          rw [Htk.out] at hx
          rcases List.mem_append.1 hx with hx | hx
          · exact HC.out x hx
          · simp at hx; subst hx; exact (isZ_isC x).1 hz2
        have hen : byteCells (enc (l.take k)) ++ runeCells c = byteCells (enc (l.take (k + 1))) := by
          rw [Htk.out, enc_append, byteCells_append, ← byteCells_encodeRune]
          simp [enc]
        rw [hen] at HW
        clear hB hen HC Htk Hmem hz2 hlen
        go_wp2_with (first
          | (go_at_call 21; refine HI.out.mono ?_; rintro e w1 ⟨rfl, rfl⟩)
          | (go_at_call 39; refine HW.out.mono ?_; rintro e w2 ⟨⟨v2, rfl⟩, hB2, hb2⟩))
        go_roundw
        case rel => exact ⟨k + 1, by go_num, by omega, HC2, hB2, hb.trans hb2⟩
        case measure => simp [intOf]; omega
    · have hltz : ¬ (k : Int) < n := by omega
      have htk : l.take k = l := List.take_of_length_le (by rw [Hn.out]; omega)
      rw [htk] at hB HC
      have HS := Lib.hid (Tryd.Builder_String_any_f w.heap.size w.heap.size (enc l) wr hB hb.size)
      clear htk hB
      go_wp2_with (go_at_call 40; refine HS.out.mono ?_; rintro e w2 ⟨rfl, _, hb2⟩)
      go_ret2
      exact ⟨.inl ⟨HC.out, rfl⟩, hb.trans hb2⟩
end Go.Proofs.YtagcfgonajogcaaDoor.Txt
