/- The contracts of place, put, SetProp, Prop and Props, where a new key comes behind the others. -/
import Derived.Test.YtcdlfgggmigcnaaDoorNtClone
import Derived.Deep.RegionLaw
import Derived.Laws.StructEq
namespace Go.Proofs.YtcdlfgggmigcnaaDoor.Nt
set_option maxRecDepth 100000
open Go.RowKit
open Go.Proofs.YtcdlfgggmigcnaaDoor.Own Go.Proofs.YtcdlfgggmigcnaaDoor.Clone

theorem place_any (g o : Nat) (v : Value) (l : List (Int × Wd)) (key : Int) (w : World) (hc : w.cell? ⟨g, o + 3, none⟩ = some v) (h : PrR w v l) (ha : Asc l) (hl : l.length ≤ 16384) :
    Calls Tryd.prog 104 #[.pointer (some ⟨g, o, none⟩), .int .i64 key] w fun e w' => e = .returned (.tuple #[.int .i64 (placeN l key : Int), .bool (hasKey l key)]) ∧ Below w.heap.size w w' := by
  have HS := Lib.hid (search_any v l key w h ha hl)
  obtain ⟨A, cap, rfl, _⟩ := h
  generalize placeN l key = k at *
  generalize hasKey l key = b at *
  go_enter Tryd.func104, Tryd.ntmps104
  go_wp2_with fail
  refine HS.out.mono ?_
  rintro e w' ⟨rfl, hb⟩
  go_wp2_with fail
  go_ret2
  exact ⟨rfl, hb⟩

/-- slices.Insert behind the last element. -/
theorem insert_end (base n c b : Nat) (A : Option Addr) (xs news : List Value) (w : World) (hown : w.ownsRow base 98 3 (.slice A n c) n xs) (hb : base ≤ w.heap.size) (hn : n < 16384) (hnl : news.length = 3) (hr : ∀ j u, news[j]? = some u → w.cell? ((⟨b, 0, none⟩ : Addr).add j) = some u) (h1 : ∀ u ∈ news, u.oneCell' = true) :
    Calls Tryd.prog 121 #[.slice A n c, .int .i64 (n : Int), .slice (some ⟨b, 0, none⟩) 1 1] w fun e w' => ∃ A' c', e = .returned (.slice A' (n + 1) c') ∧ Appended w w' base 98 3 (.slice A n c) (.slice A' (n + 1) c') (n + 1) (xs ++ news) := by
  obtain ⟨i0, hi, hz0, hz1, hz2⟩ := info_parts prop_info
  have HI := Lib.hid hi
  have HZ0 := Lib.hid hz0
  have HZ1 := Lib.hid hz1
  have HZ2 := Lib.hid hz2
  have hcap : n ≤ c ∧ c ≤ 9223372036854775807 := by
    rcases hown.2 with ⟨hv, h0⟩ | ⟨g', cap, cur, hh, _, _, h1, h2, _⟩
    · cases hv; omega
    · cases hh; exact ⟨h1, by unfold maxLen at h2; omega⟩
  obtain ⟨hc1, hc2⟩ := hcap
  have hz1 : (n : Int) ≤ (c : Int) := by omega
  have HOw := Lib.hid hown
  have HNl := Lib.hid hnl
  have HR := Lib.hid hr
  have H1 := Lib.hid h1
  have hform : A = none ∨ ∃ g, A = some ⟨g, 0, none⟩ := by
    rcases hown.2 with ⟨hv, h0⟩ | ⟨g', cap, cur, hh, _⟩
    · cases hv; exact .inl rfl
    · cases hh; exact .inr ⟨_, rfl⟩
  clear hi hz0 hz2 hown hnl hr h1
  rcases hform with rfl | ⟨g, rfl⟩
  · have hn0 : n = 0 := by
      rcases HOw.out.2 with ⟨hv, h0⟩ | ⟨g', cap, cur, hh, _⟩
      · exact h0
      · cases hh
    subst hn0
    go_enter Tryd.func121, Tryd.ntmps121
    go_wp2_with (at_builtin; refine wpList_append_place rfl (.tmp 23) (.tmp 24) 99 rfl base 98 i0 (.agg #[.int .i64 0, .int .i64 0, .int .i64 0]) 3 24 Tryd.underlying99 HI.out HZ0.out HZ1.out HZ2.out rfl (by decide) (.slice none 0 c) 0 xs rfl HOw.out ⟨b, 0, none⟩ 1 1 news rfl HNl.out HR.out H1.out (by as_aux_lemma => (unfold maxLen; omega)) (by as_aux_lemma => omega) hb ?_)
    intro A' c' w1 hap
    have HA := Lib.hid hap
    clear hap
    go_wp2_with fail
    go_ret
    exact ⟨_, _, rfl, HA.out⟩
  · by_cases hcn : c = n
    · subst hcn
      go_enter Tryd.func121, Tryd.ntmps121
      go_wp2_with (at_builtin; refine wpList_append_place rfl (.tmp 23) (.tmp 24) 99 rfl base 98 i0 (.agg #[.int .i64 0, .int .i64 0, .int .i64 0]) 3 24 Tryd.underlying99 HI.out HZ0.out HZ1.out HZ2.out rfl (by decide) (.slice (some ⟨g, 0, none⟩) c c) c xs rfl HOw.out ⟨b, 0, none⟩ 1 1 news rfl HNl.out HR.out H1.out (by as_aux_lemma => (unfold maxLen; omega)) (by as_aux_lemma => omega) hb ?_)
      intro A' c' w1 hap
      have HA := Lib.hid hap
      clear hap
      go_wp2_with fail
      go_ret
      exact ⟨_, _, rfl, HA.out⟩
    · have hcn2 : ¬ n = c := fun e => hcn e.symm
      go_enter Tryd.func121, Tryd.ntmps121
      go_wp2_with (at_builtin; refine wpList_append_place rfl (.tmp 23) (.tmp 24) 99 rfl base 98 i0 (.agg #[.int .i64 0, .int .i64 0, .int .i64 0]) 3 24 Tryd.underlying99 HI.out HZ0.out HZ1.out HZ2.out rfl (by decide) (.slice (some ⟨g, 0, none⟩) n c) n xs rfl HOw.out ⟨b, 0, none⟩ 1 1 news rfl HNl.out HR.out H1.out (by as_aux_lemma => (unfold maxLen; omega)) (by as_aux_lemma => omega) hb ?_)
      intro A' c' w1 hap
      have HA := Lib.hid hap
      clear hap
      go_wp2_with fail
      go_ret
      exact ⟨_, _, rfl, HA.out⟩

def updP (ps : Nat → Value) (k : Nat) (v : Value) : Nat → Value := fun i => if i = k then v else ps i
def labP (n : Nat) (v : Value) (k : Nat) (lab : Nat → Option TLab) (b : Nat) : Option TLab := if n ≤ b then (if v.ownBlock = some b then some (.props k) else none) else lab b
/-- A table behind a change of a symbol's properties. -/
theorem TabIs.turned {F : Nat → Prop} {w w' : World} {base tp k : Nat} {t : Tb} {lab : Nat → Option TLab} {P : TParts} {s : Sy} {v' : Value} {pr' : List (Int × Wd)} (h : TabIs w base tp t lab P) (_hb0 : base ≤ w.heap.size) (hs : t.syms[k]? = some s) (hk : Keeps F w w') (hF : ∀ b, F b → lab b = some .syms ∨ lab b = some (.props k))
    (hsy : w'.ownsRow base 149 5 P.sv t.syms.length (scells (t.syms.set k ⟨s.name, s.fn, s.has, pr'⟩) (updP P.ps k v') 0)) (hpr : w'.ownsRow base 98 3 v' pr'.length (pcells pr')) (hpl : ∀ b, v'.ownBlock = some b → (P.ps k).ownBlock = some b ∨ w.heap.size ≤ b) (ha : Asc pr') (hl : pr'.length ≤ 16384) :
    TabOk w w' base tp ⟨t.syms.set k ⟨s.name, s.fn, s.has, pr'⟩, t.find⟩ lab := by
  have hn : ∀ b l, lab b = some l → l ≠ .syms → l ≠ .props k → ¬ F b := fun b l hl h1 h2 hf => by
    rcases hF b hf with e | e <;> rw [hl] at e <;> cases e
    · exact h1 rfl
    · exact h2 rfl
  have hold : ∀ b l, lab b = some l → labP w.heap.size v' k lab b = some l := fun b l hl => by
    unfold labP
    rw [if_neg (by have := (h.inb b l hl).2; omega)]
    exact hl
  have hkl : k < t.syms.length := (List.getElem?_eq_some_iff.1 hs).1
  refine ⟨labP w.heap.size v' k lab, ⟨P.sv, P.mb, updP P.ps k v'⟩, ?_, ⟨hk.mono fun b _ e => ?_, fun b hb => ?_⟩⟩
  · exact {
      inb := fun b l hl => by
        unfold labP at hl
        split at hl
        · split at hl
          · rename_i e
            exact hpr.lt b e
          · cases hl
        · exact ⟨(h.inb b l hl).1, Nat.lt_of_lt_of_le (h.inb b l hl).2 hk.size⟩
      hdr := hold _ _ h.hdr
      blk := h.blk.keeps hk (hn _ _ h.hdr (by simp) (by simp))
      mlab := hold _ _ h.mlab
      map := by
        have := h.map.keeps hk (hn _ _ h.mlab (by simp) (by simp))
        simpa using this
      syms := by rw [List.length_set]; exact hsy
      slab := fun b e => hold _ _ (h.slab b e)
      props := fun i y hi => by
        by_cases e : i = k
        · subst e
          rw [List.getElem?_set_self hkl] at hi
          cases hi
          show World.ownsRow w' base _ 3 (updP P.ps i v' i) _ _
          unfold updP
          rw [if_pos rfl]
          exact hpr
        · rw [List.getElem?_set_ne (fun h => e h.symm)] at hi
          show World.ownsRow w' base _ 3 (updP P.ps k v' i) _ _
          unfold updP
          rw [if_neg e]
          exact owns_keeps (h.props i y hi) hk fun b hb => hn _ _ (h.plab i b hb) (by simp) (fun h => by cases h; exact e rfl)
      plab := fun i b e => by
        by_cases hi : i = k
        · subst hi
          have e : v'.ownBlock = some b := by simpa [updP] using e
          rcases hpl b e with e2 | e2
          · exact hold _ _ (h.plab _ b e2)
          · unfold labP
            rw [if_pos e2, if_pos e]
        · have e : (P.ps i).ownBlock = some b := by simpa [updP, hi] using e
          exact hold _ _ (h.plab i b e)
      tail := fun i hi => by
        have hi : t.syms.length ≤ i := by simpa using hi
        have hne : ¬ i = k := by omega
        show updP P.ps k v' i = _
        unfold updP
        rw [if_neg hne]
        exact h.tail i hi
      many := by simpa using h.many
      pmany := set_each (Q := fun _ s => s.props.length ≤ 16384) h.pmany hl
      small := set_each (Q := fun _ s => s.name.size ≤ 4611686018427387904) h.small (h.small k s hs)
      found := set_found h.found hs rfl
      sorted := set_each (Q := fun _ s => Asc s.props) h.sorted ha }
  · unfold TOf
    rcases hF b e with e | e <;> rw [e] <;> simp
  · unfold TOf labP at hb
    split at hb
    · right; assumption
    · exact .inl hb
end Go.Proofs.YtcdlfgggmigcnaaDoor.Nt
