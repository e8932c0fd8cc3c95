/- The contract of Copy: a table of its own with the same symbols, functions and properties. -/
import Derived.Test.YtcdlfgggmigcnaaDoorNtClone
import Derived.Test.YtcdlfgggmigcnaaDoorNtPut
import Derived.Test.YtcdlfgggmigcnaaDoorNtKit
import Derived.Test.YtcdlfgggmigcnaaDoorNtShelf
import Derived.Deep.RegionHeld3
import Derived.LoopTactic
import Derived.Deep.LoopGhost
namespace Go.Proofs.YtcdlfgggmigcnaaDoor.Nt
set_option maxRecDepth 100000
open Go.RowKit Go.Maps Go.WideMaps
open Go.Proofs.YtcdlfgggmigcnaaDoor.Own Go.Proofs.YtcdlfgggmigcnaaDoor.Clone

theorem scells_one (l : List Sy) (ps : Nat → Value) (k : Nat) (h : ∀ i, ∃ A n c, ps i = .slice A n c) : ∀ u ∈ scells l ps k, u.oneCell' = true := by
  induction l generalizing k with
  | nil => intro u hu; simp [scells] at hu
  | cons s l ih =>
    intro u hu
    simp only [scells, List.mem_append] at hu
    rcases hu with hu | hu
    · obtain ⟨A, n, c, e⟩ := h k
      rw [e] at hu
      exact syCells_one s A n c u hu
    · exact ih (k + 1) u hu
theorem TabIs.slices {w : World} {base tp : Nat} {t : Tb} {lab : Nat → Option TLab} {P : TParts} (h : TabIs w base tp t lab P) (i : Nat) : ∃ A n c, P.ps i = .slice A n c := by
  cases hs : t.syms[i]? with
  | none => exact ⟨_, _, _, h.tail i (by simpa using hs)⟩
  | some s =>
    rcases (h.props i s hs).2 with ⟨hv, _⟩ | ⟨g, cap, cur, hv, _⟩
    · exact ⟨_, _, _, hv⟩
    · exact ⟨_, _, _, hv⟩
theorem owns_slice {w : World} {base : Nat} {e : TypeId} {size n : Nat} {v : Value} {xs : List Value} (h : w.ownsRow base e size v n xs) : ∃ A c, v = .slice A n c := by
  rcases h.2 with ⟨hv, h0⟩ | ⟨g, cap, cur, hv, _⟩
  · exact ⟨none, 0, by rw [hv, h0]⟩
  · exact ⟨_, _, hv⟩
theorem owns_low {w : World} {b b' : Nat} {e : TypeId} {size n : Nat} {v : Value} {xs : List Value} (h : w.ownsRow b e size v n xs) (hb : b' ≤ b) : w.ownsRow b' e size v n xs := by
  refine ⟨h.1, ?_⟩
  rcases h.2 with h0 | ⟨g, cap, cur, hv, hbg, r⟩
  · exact .inl h0
  · exact .inr ⟨g, cap, cur, hv, Nat.le_trans hb hbg, r⟩
theorem cloneMap_any {w : World} {b n : Nat} {F : ByteArray → Option Nat} (h : MapIs w b F n) :
    Calls Tryd.prog 89 #[.map (some b)] w fun e w' => e = .returned (.map (some w.heap.size)) ∧ MapIs w' w.heap.size F n ∧ Below w.heap.size w w' := by
  obtain ⟨D, ho, r⟩ := h
  refine (AnyW.maps_Clone_owns Tryd.cloneM _ _ b n D w ho).mono ?_
  rintro e w' ⟨he, h1, _, hb⟩
  exact ⟨he, ⟨D, h1, r⟩, hb⟩

/-- Between the rounds of Copy: the first k symbols of the copy have properties of their own. -/
structure Cp (w wr : World) (cp mb : Nat) (sv : Value) (t : Tb) (P : TParts) (qs : Nat → Value) (lab : Nat → Option TLab) (k : Nat) : Prop where
  below : Below w.heap.size w wr
  inb : ∀ b l, lab b = some l → w.heap.size ≤ b ∧ b < wr.heap.size
  hdr : lab cp = some .hdr
  blk : Blk wr cp #[sv, .map (some mb)] 142
  mlab : lab mb = some .map
  map : MapIs wr mb t.find t.syms.length
  syms : wr.ownsRow w.heap.size 149 5 sv t.syms.length (scells t.syms qs 0)
  slab : ∀ b, sv.ownBlock = some b → lab b = some .syms
  props : ∀ (i : Nat) (s : Sy), i < k → t.syms[i]? = some s → wr.ownsRow w.heap.size 98 3 (qs i) s.props.length (pcells s.props)
  plab : ∀ i b, i < k → (qs i).ownBlock = some b → lab b = some (.props i)
  rest : ∀ i, k ≤ i → qs i = P.ps i

def labC (cp mb : Nat) (sv : Value) (b : Nat) : Option TLab := if b = cp then some .hdr else if b = mb then some .map else if sv.ownBlock = some b then some .syms else none
theorem Cp.start {w w1 w2 : World} {sv : Value} {t : Tb} {P : TParts} {lab0 : Nat → Option TLab} {base tp : Nat} (_h : TabIs w base tp t lab0 P) (hb1 : Below w.heap.size w w1) (ho : w1.ownsRow w.heap.size 149 5 sv t.syms.length (scells t.syms P.ps 0)) (hm : MapIs w2 w1.heap.size t.find t.syms.length) (hb2 : Below w1.heap.size w1 w2) :
    Cp w (w2.alloc (.cells #[sv, .map (some w1.heap.size)] 142)) w2.heap.size w1.heap.size sv t P P.ps (labC w2.heap.size w1.heap.size sv) 0 := by
  have hlt := hm.lt
  have hal : Below w2.heap.size w2 (w2.alloc (.cells #[sv, .map (some w1.heap.size)] 142)) := (Below.refl _ _).alloc (Nat.le_refl _) _
  have hsz : (w2.alloc (.cells #[sv, .map (some w1.heap.size)] 142)).heap.size = w2.heap.size + 1 := by simp
  exact {
    below := hb1.trans ((hb2.trans (hal.mono hb2.size)).mono hb1.size)
    inb := fun b l hl => by
      unfold labC at hl
      rw [hsz]
      have := hb1.size
      have := hb2.size
      split at hl
      · omega
      · split at hl
        · omega
        · split at hl
          · rename_i e
            have := ho.lt b e
            omega
          · cases hl
    hdr := by unfold labC; rw [if_pos rfl]
    blk := Blk.new _ _ _
    mlab := by unfold labC; rw [if_neg (by omega), if_pos rfl]
    map := hm.keeps (Keeps.of_below hal : Keeps (fun _ => False) _ _) (fun h => h)
    syms := owns_below (owns_below ho hb2) hal
    slab := fun b e => by
      have := ho.lt b e
      unfold labC
      rw [if_neg (by have := hb2.size; omega), if_neg (by omega), if_pos e]
    props := fun i s hi => by omega
    plab := fun i b hi => by omega
    rest := fun i _ => rfl }
theorem Cp.step {w wr w2 : World} {cp mb g cap k : Nat} {t : Tb} {P : TParts} {qs : Nat → Value} {lab : Nat → Option TLab} {s : Sy} {v' : Value} (h : Cp w wr cp mb (.slice (some ⟨g, 0, none⟩) t.syms.length cap) t P qs lab k) (hs : t.syms[k]? = some s) (ho : w2.ownsRow wr.heap.size 98 3 v' s.props.length (pcells s.props)) (hb : Below wr.heap.size wr w2) :
    Cp w (w2.setCell ⟨g, k * 5 + 1 + 3, none⟩ v') cp mb (.slice (some ⟨g, 0, none⟩) t.syms.length cap) t P (updP qs k v') (labP wr.heap.size v' k lab) (k + 1) := by
  have hgl : lab g = some .syms := h.slab g rfl
  have hg := h.inb g _ hgl
  have hk : Keeps (fun b => b = g) wr (w2.setCell ⟨g, k * 5 + 1 + 3, none⟩ v') := (Keeps.of_below hb).setCell _ _ fun _ => rfl
  have hn : ∀ b l, lab b = some l → l ≠ .syms → ¬ b = g := fun b l hl hne e => by
    subst e
    rw [hgl] at hl
    cases hl
    exact hne rfl
  have hold : ∀ b l, lab b = some l → labP wr.heap.size v' k lab b = some l := fun b l hl => by
    unfold labP
    rw [if_neg (by have := (h.inb b l hl).2; omega)]
    exact hl
  have hvlt := ho.lt
  have hsize : (w2.setCell ⟨g, k * 5 + 1 + 3, none⟩ v').heap.size = w2.heap.size := by simp [World.setCell]
  have hset : Keeps (fun b => b = g) w2 (w2.setCell ⟨g, k * 5 + 1 + 3, none⟩ v') := (Keeps.refl (fun b => b = g) w2).setCell _ _ fun _ => rfl
  exact {
    below := h.below.trans (hk.below h.below.size fun b e => by rw [e]; exact hg.1)
    inb := fun b l hl => by
      rw [hsize]
      have := hb.size
      have := h.below.size
      unfold labP at hl
      split at hl
      · split at hl
        · rename_i e
          have := hvlt b e
          omega
        · cases hl
      · have := h.inb b l hl
        omega
    hdr := hold _ _ h.hdr
    blk := h.blk.keeps hk (hn _ _ h.hdr (by simp))
    mlab := hold _ _ h.mlab
    map := h.map.keeps hk (hn _ _ h.mlab (by simp))
    syms := by
      have h1 := owns_set (owns_below h.syms hb) (k * 5 + 4) v'
      have h2 := scells_ps t.syms qs (updP qs k v') k s s.props hs (fun i hi => by unfold updP; rw [if_neg hi])
      rw [show updP qs k v' k = v' by unfold updP; rw [if_pos rfl]] at h2
      rw [h2, show t.syms.set k ⟨s.name, s.fn, s.has, s.props⟩ = t.syms from by
        apply List.ext_getElem?
        intro i
        by_cases e : i = k
        · subst e
          rw [List.getElem?_set_self (List.getElem?_eq_some_iff.1 hs).1, hs]
        · rw [List.getElem?_set_ne (fun h => e h.symm)]] at h1
      exact h1
    slab := fun b e => hold _ _ (h.slab b e)
    props := fun i y hi hy => by
      by_cases e : i = k
      · subst e
        rw [hs] at hy
        cases hy
        rw [show updP qs i v' i = v' by unfold updP; rw [if_pos rfl]]
        exact owns_low (owns_keeps ho hset fun b e2 e3 => by subst e3; have := (hvlt b e2).1; omega) h.below.size
      · rw [show updP qs k v' i = qs i by unfold updP; rw [if_neg e]]
        exact owns_keeps (h.props i y (by omega) hy) hk fun b e2 => hn _ _ (h.plab i b (by omega) e2) (by simp)
    plab := fun i b hi e2 => by
      by_cases e : i = k
      · subst e
        rw [show updP qs i v' i = v' by unfold updP; rw [if_pos rfl]] at e2
        unfold labP
        rw [if_pos (hvlt b e2).1, if_pos e2]
      · rw [show updP qs k v' i = qs i by unfold updP; rw [if_neg e]] at e2
        exact hold _ _ (h.plab i b (by omega) e2)
    rest := fun i hi => by
      rw [show updP qs k v' i = qs i by unfold updP; rw [if_neg (by omega)]]
      exact h.rest i (by omega) }
theorem Cp.tab {w wr : World} {base tp cp mb : Nat} {sv : Value} {t : Tb} {P : TParts} {qs : Nat → Value} {lab0 lab : Nat → Option TLab} (h : Cp w wr cp mb sv t P qs lab t.syms.length) (h0 : TabIs w base tp t lab0 P) : TabIs wr w.heap.size cp t lab ⟨sv, mb, qs⟩ :=
  { inb := h.inb
    hdr := h.hdr
    blk := h.blk
    mlab := h.mlab
    map := h.map
    syms := h.syms
    slab := h.slab
    props := fun i s hs => h.props i s (List.getElem?_eq_some_iff.1 hs).1 hs
    plab := fun i b e => by
      by_cases hi : i < t.syms.length
      · exact h.plab i b hi e
      · rw [show (TParts.mk sv mb qs).ps i = .slice none 0 0 from (h.rest i (by omega)).trans (h0.tail i (by omega))] at e
        cases e
    tail := fun i hi => (h.rest i hi).trans (h0.tail i hi)
    many := h0.many
    pmany := h0.pmany
    small := h0.small
    found := h0.found
    sorted := h0.sorted }

set_option maxHeartbeats 4000000 in
theorem copyT_any {w : World} {base tp : Nat} {t : Tb} {lab : Nat → Option TLab} {P : TParts} (h : TabIs w base tp t lab P) :
    Calls Tryd.prog 52 #[tptr tp] w fun e w' => ∃ cp, e = .returned (tptr cp) ∧ w.heap.size ≤ cp ∧ Below w.heap.size w w' ∧ ∃ lab' P', TabIs w' w.heap.size cp t lab' P' := by
  have HV := Lib.hid h.valid
  obtain ⟨c0, c1, e0, e1⟩ := h.blk.two
  obtain ⟨n, hn⟩ : ∃ n, t.syms.length = n := ⟨_, rfl⟩
  obtain ⟨A, c, hv⟩ := owns_slice h.syms
  rw [hn] at hv
  have HCS := Lib.hid (show ∀ W, Below w.heap.size w W → Calls Tryd.prog 88 #[.slice A n c] W fun e w' => (∃ A' c', e = .returned (.slice A' n c') ∧ w'.ownsRow w.heap.size 149 5 (.slice A' n c') t.syms.length (scells t.syms P.ps 0)) ∧ Below W.heap.size W w' from fun W hW => by
    have h2 := (h.below hW).syms
    rw [hv, hn] at h2
    refine (cloneS_any _ n _ W (SlR.of_own h2) (by rw [scells_length, hn]) (scells_one _ _ _ h.slices) (by have := h.many; omega)).mono ?_
    rintro e w' ⟨⟨v, rfl, ho⟩, hb⟩
    obtain ⟨A', c', rfl⟩ := owns_slice ho
    exact ⟨⟨A', c', rfl, by rw [hn]; exact owns_low ho hW.size⟩, hb⟩)
  have HCM := Lib.hid (show ∀ W, Below w.heap.size w W → Calls Tryd.prog 89 #[.map (some P.mb)] W fun e w' => e = .returned (.map (some W.heap.size)) ∧ MapIs w' W.heap.size t.find t.syms.length ∧ Below W.heap.size W w' from fun W hW => cloneMap_any (h.below hW).map)
  have HS := Lib.hid (show ∀ W, Below w.heap.size w W → W.cell? ⟨tp, 0, none⟩ = some (.slice A n c) ∧ W.cell? ⟨tp, 1, none⟩ = some (.map (some P.mb)) from fun W hW => ⟨(h.blk.below hW).cell 0 _ (by rw [← hv]; rfl), (h.blk.below hW).cell 1 _ rfl⟩)
  have HBx : Hid (Below w.heap.size w w.drew) := (Below.refl w.heap.size w).drew
  have HH := Lib.hid h
  have hmn : n ≤ 16384 := by have := h.many; omega
  clear h c0 c1 e0 e1
  go_enter Tryd.func52, Tryd.ntmps52
  go_wp2_with fail
  refine HV.out.mono ?_
  rintro e w' ⟨rfl, rfl⟩
  go_wp2_with fail
  go_region_held3 (fun W => W.cell? ⟨tp, 0, none⟩ = some (.slice A n c) ∧ W.cell? ⟨tp, 1, none⟩ = some (.map (some P.mb)))
    (first
      | (have s0 := HS.out _ HBx.out; with_reducible exact s0)
      | (with_reducible exact HS.out _ (HBx.out.alloc HBx.out.size _)))
    (first
      | (go_at_call 88; refine (HCS.out _ HBx.out).mono ?_; rintro e w1 ⟨⟨A1, c1, rfl, ho1⟩, hb1⟩; have HBx : Hid (Below w.heap.size w w1) := HBx.out.trans (hb1.mono HBx.out.size); have HO1 := Lib.hid ho1; clear ho1 hb1)
      | (go_at_call 89; refine (HCM.out _ HBx.out).mono ?_; rintro e w2 ⟨rfl, hm2, hb2⟩; have HC := Lib.hid (Cp.start HH.out HBx.out HO1.out hm2 hb2); have HBx : Hid (Below w.heap.size w w2) := HBx.out.trans (hb2.mono HBx.out.size); clear hm2 hb2))
  all_goals (
    clear HS HCS HCM HBx HO1
    go_wp2_with fail
    go_loopw [26] (fun i wr => ∃ (k : Nat) (qs : Nat → Value) (lab' : Nat → Option TLab), i = .int .i64 (k : Int) ∧ k ≤ n ∧ Hid (Cp w wr w2.heap.size w1.heap.size (.slice A1 n c1) t P qs lab' k)) (fun i _ => n - (intOf i).toNat)
    case atStart => exact ⟨0, _, _, rfl, Nat.zero_le _, HC⟩
    case round =>
      obtain ⟨k, qs, lab1, rfl, hk, HI⟩ := hrel
      by_cases hlt : k < n
      · have hltz : (k : Int) < n := by omega
        obtain ⟨s, hs⟩ : ∃ s, t.syms[k]? = some s := ⟨_, List.getElem?_eq_getElem (by omega)⟩
        have hsy := HI.out.syms
        rw [hn] at hsy
        obtain ⟨g, hg⟩ : ∃ g, A1 = some ⟨g, 0, none⟩ := by
          rcases hsy.2 with ⟨hv, h0⟩ | ⟨g, cap, cur, hv, _⟩
          · omega
          · cases hv; exact ⟨_, rfl⟩
        subst hg
        have hr := Row.of_owns hsy
        obtain ⟨A2, c2, hps⟩ := owns_slice (HH.out.props k s hs)
        have hcell : wr.cell? ⟨g, k * 5 + 1 + 3, none⟩ = some (qs k) := (sy_cells hr k s hs).2.2.2.2
        rw [HI.out.rest k (Nat.le_refl _), hps] at hcell
        have hfree := hr.free (k * 5 + 1 + 3)
        obtain ⟨b0, b1, e0, e1⟩ := HI.out.blk.two
        have hown := (HH.out.below HI.out.below).props k s hs
        rw [hps] at hown
        have HCl := Lib.hid (cloneP_any _ _ _ wr (SlR.of_own hown) (pcells_length _) (pcells_one _) (by have := HH.out.pmany k s hs; omega))
        have HSt := Lib.hid (show ∀ w4 v', w4.ownsRow wr.heap.size 98 3 v' s.props.length (pcells s.props) → Below wr.heap.size wr w4 → ∃ qs' lab', Cp w (w4.setCell ⟨g, k * 5 + 1 + 3, none⟩ v') w2.heap.size w1.heap.size (.slice (some ⟨g, 0, none⟩) n c1) t P qs' lab' (k + 1) from fun w4 v' ho hb => by
          have h1 := HI.out
          rw [← hn] at h1 ⊢
          exact ⟨_, _, h1.step hs ho hb⟩)
        have HCe := Lib.hid hcell
        have HFr := Lib.hid hfree
        clear hs hsy hr hps hown HC hn hv hcell
        have hcell := HCe.out
        go_wp2_with fail
        refine HCl.out.mono ?_
        rintro e w4 ⟨⟨v', rfl, ho⟩, hb⟩
        obtain ⟨A4, c4, rfl⟩ := owns_slice ho
        obtain ⟨qs', lab', hst⟩ := HSt.out w4 _ ho hb
        have HN := Lib.hid hst
        have d1 := (hb.cell (World.block_lt_of_cell? _ _ HCe.out)).trans HCe.out
        have d2 := (hb.frozen (World.block_lt_of_cell? _ _ HCe.out)).trans HFr.out
        clear hcell b0 b1 e0 e1 hb ho hst hfree
        go_wp2_with fail
        go_roundw
        case rel => exact ⟨k + 1, _, _, by go_num, by omega, HN⟩
        case measure => simp [intOf]; omega
      · obtain rfl : k = n := by omega
        have hltz : ¬ (k : Int) < k := by omega
        have HF := Lib.hid (show _ from by have h1 := HI.out; rw [← hn] at h1; exact h1.tab HH.out)
        have HL := Lib.hid (HI.out.inb _ _ HI.out.hdr).1
        have HB := Lib.hid HI.out.below
        clear HC hn hv
        go_wp2_with fail
        go_ret
        exact ⟨_, rfl, HL.out, HB.out, _, _, HF.out⟩)
end Go.Proofs.YtcdlfgggmigcnaaDoor.Nt
