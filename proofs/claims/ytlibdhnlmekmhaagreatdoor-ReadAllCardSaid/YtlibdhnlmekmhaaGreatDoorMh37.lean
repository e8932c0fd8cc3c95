/- The contracts of internAll and New: the table of the fixed names. | Read as one contract; a new heap and a new table. | The contract of All. -/
import Derived.LoopTactic
import Derived.Deep.LoopGhost
import Derived.RegionTactic
import Derived.Test.YtlibdhnlmekmhaaGreatDoorMh17
import Derived.Test.YtlibdhnlmekmhaaGreatDoorMh36
/- The contracts of internAll and New: the table of the fixed names. -/
section
namespace Go.Proofs.YtlibdhnlmekmhaaGreatDoor.Nt
set_option maxRecDepth 100000
open Go.RowKit
open Go.Lib (validD)
open Go.Proofs.YtlibdhnlmekmhaaGreatDoor.Own Go.Proofs.YtlibdhnlmekmhaaGreatDoor.Strs

/-- The place of a name in a list. -/
def idx : List ByteArray → ByteArray → Option Nat
  | [], _ => none
  | x :: l, s => if s = x then some 0 else (idx l s).map (· + 1)
theorem idx_none {l : List ByteArray} {s : ByteArray} (h : s ∉ l) : idx l s = none := by
  induction l with
  | nil => rfl
  | cons x l ih =>
    simp only [List.mem_cons, not_or] at h
    simp [idx, h.1, ih h.2]
theorem idx_some {l : List ByteArray} {s : ByteArray} {n : Nat} (h : idx l s = some n) : l[n]? = some s := by
  induction l generalizing n with
  | nil => simp [idx] at h
  | cons x l ih =>
    unfold idx at h
    split at h
    · rename_i e
      cases h
      simp [e]
    · cases hi : idx l s with
      | none => rw [hi] at h; simp at h
      | some k =>
        rw [hi] at h
        simp at h
        subst h
        simpa using ih hi
theorem idx_at {l : List ByteArray} (hd : l.Nodup) {n : Nat} {s : ByteArray} (h : l[n]? = some s) : idx l s = some n := by
  induction l generalizing n with
  | nil => simp at h
  | cons x l ih =>
    rw [List.nodup_cons] at hd
    cases n with
    | zero =>
      simp at h
      simp [idx, h]
    | succ n =>
      simp at h
      have hne : ¬ s = x := fun e => hd.1 (by rw [← e]; exact List.mem_of_getElem? h)
      simp [idx, hne, ih hd.2 h]
theorem idx_snoc {l : List ByteArray} {s : ByteArray} (h : s ∉ l) : upd (idx l) s l.length = idx (l ++ [s]) := by
  funext u
  unfold upd
  induction l with
  | nil => simp [idx]
  | cons x l ih =>
    simp only [List.mem_cons, not_or] at h
    have := ih h.2
    simp only [List.cons_append, idx, List.length_cons]
    by_cases hx : u = x
    · have hs : ¬ u = s := fun e => h.1 (by rw [← e, hx])
      rw [if_neg hs, if_pos hx, if_pos hx]
    · rw [if_neg hx, if_neg hx, ← this]
      split <;> simp

/-- A name that may be given. -/
def Good (s : ByteArray) : Prop := validD s.data.toList = true ∧ lenL s.data.toList ≤ 1000
theorem freshO_new {t : Tb} {s : ByteArray} (hg : Good s) (hm : t.syms.length < 16384) : freshO t s = ((t.syms.length : Int), 0, ⟨t.syms ++ [newSy s], t.find⟩) := by
  unfold freshO
  rw [if_neg (by rw [hg.1]; simp), if_neg (by have := hg.2; omega), if_neg (by omega)]
theorem internO_new {t : Tb} {s : ByteArray} (hf : t.find s = none) (hg : Good s) (hm : t.syms.length < 16384) : internO t s = ((t.syms.length : Int), 0, ⟨t.syms ++ [newSy s], upd t.find s t.syms.length⟩) := by
  unfold internO
  rw [hf]
  simp only
  rw [if_pos (by rw [freshO_new hg hm])]

/-- The table of some names. -/
def tabL (l : List ByteArray) : Tb := ⟨l.map newSy, idx l⟩
theorem tabL_snoc {l : List ByteArray} {s : ByteArray} (h : s ∉ l) (hg : Good s) (hm : l.length < 16384) : internO (tabL l) s = ((l.length : Int), 0, tabL (l ++ [s])) := by
  rw [internO_new (idx_none h) hg (by simpa [tabL] using hm)]
  simp only [tabL, List.length_map]
  rw [idx_snoc h]
  simp

/-- Between the rounds of internAll. -/
structure Inter (w wr : World) (base tp : Nat) (t : Tb) (lab0 : Nat → Option TLab) (lab : Nat → Option TLab) (P : TParts) : Prop where
  tab : TabIs wr base tp t lab P
  after : TAfter w wr lab0 lab
  below : Below base w wr

set_option maxHeartbeats 2000000 in
theorem internAll_any {w : World} {base tp b cap : Nat} {lab : Nat → Option TLab} {P : TParts} (l : List ByteArray) (h : TabIs w base tp (tabL []) lab P) (hb : base ≤ w.heap.size) (hd : l.Nodup) (hg : ∀ s ∈ l, Good s ∧ s.size ≤ 1000000) (hl : l.length ≤ 1000) (hc : l.length ≤ cap) (_hc2 : cap ≤ 1000000) (hr : Row w b (l.map Value.string)) (hbl : lab b = none) (_hT : Tabs w) (hTb : ∀ W, Below base w W → Tabs W) :
    Calls Tryz.prog 97 #[tptr tp, .slice (some ⟨b, 0, none⟩) l.length cap] w fun e w' => e = .returned (.tuple #[]) ∧ ∃ lab' P', Inter w w' base tp (tabL l) lab lab' P' := by
  have hS : Inter w w base tp (tabL (l.take 0)) lab lab P := ⟨h, .refl _ _, Below.mono (Below.refl _ _) hb⟩
  have HS := Lib.hid hS
  have HR := Lib.hid hr
  have HL := Lib.hid hbl
  have HT := Lib.hid hTb
  have HB := Lib.hid hb
  have HD := Lib.hid hd
  have HG := Lib.hid hg
  obtain ⟨n, hn⟩ : ∃ n, l.length = n := ⟨_, rfl⟩
  rw [hn] at hl hc ⊢
  have HN := Lib.hid hn
  clear hS hr hbl hTb hb hd hg h hn
  go_enter Tryz.func97, Tryz.ntmps97
  go_wp2_with fail
  go_loopw [8] (fun i wr => ∃ (k : Nat) (lab' : Nat → Option TLab) (P' : TParts), i = .int .i64 (k : Int) ∧ k ≤ n ∧ Hid (Inter w wr base tp (tabL (l.take k)) lab lab' P')) (fun i _ => n - (intOf i).toNat)
  case atStart => exact ⟨0, _, _, rfl, Nat.zero_le _, HS⟩
  case round =>
    obtain ⟨k, lab1, P1, rfl, hk, HI⟩ := hrel
    by_cases hlt : k < n
    · have hltz : (k : Int) < n := by omega
      obtain ⟨s, hs⟩ : ∃ s, l[k]? = some s := ⟨l[k]'(by rw [HN.out]; exact hlt), List.getElem?_eq_getElem _⟩
      have hrow := HR.out.keeps HI.out.after.keeps (by unfold TOf; rw [HL.out]; simp)
      have c0 := hrow.cell k (.string s) (by rw [List.getElem?_map, hs]; rfl)
      have hgs := HG.out s (List.mem_of_getElem? hs)
      have hnot : s ∉ l.take k := fun hm => by
        obtain ⟨j, hj, he⟩ := List.getElem_of_mem hm
        rw [List.getElem_take] at he
        have hjk : j < k := by rw [List.length_take] at hj; omega
        have hk2 : k < l.length := by rw [HN.out]; exact hlt
        have e2 : l[k]'hk2 = s := by
          rw [List.getElem?_eq_getElem hk2] at hs
          exact Option.some.inj hs
        exact List.pairwise_iff_getElem.1 HD.out j k (by omega) hk2 hjk (by rw [he, e2])
      have hi := intern_any HI.out.tab (Nat.le_trans HB.out HI.out.below.size) s (by have := hgs.2; omega) (HT.out _ HI.out.below)
      rw [tabL_snoc hnot hgs.1 (by rw [List.length_take]; omega), show l.take k ++ [s] = l.take (k + 1) by rw [List.take_add_one, hs]; rfl] at hi
      have HIn := Lib.hid hi
      have HB1 := Lib.hid (Nat.le_trans HB.out HI.out.below.size)
      clear hrow hgs hnot hi
      go_wp2_with fail
      refine HIn.out.mono ?_
      rintro e w2 ⟨rfl, lab2, P2, hI2, hA2⟩
      have HI2 := Lib.hid (show Inter w w2 base tp (tabL (l.take (k + 1))) lab lab2 P2 from ⟨hI2, HI.out.after.trans hA2, HI.out.below.trans (hA2.bel HI.out.tab HB1.out)⟩)
      clear hI2 hA2
      go_wp2_with fail
      go_roundw
      case rel => exact ⟨k + 1, _, _, by go_num, by omega, HI2⟩
      case measure => simp [intOf]; omega
    · obtain rfl : k = n := by omega
      have hltz : ¬ (k : Int) < k := by omega
      have HF := Lib.hid (show Inter w wr base tp (tabL l) lab lab1 P1 by have := HI.out; rw [List.take_of_length_le (by rw [HN.out]; exact Nat.le_refl _)] at this; exact this)
      go_wp2_with fail
      go_end0
      exact ⟨rfl, lab1, P1, HF.out⟩

/-- The fixed names. -/
def fx : List ByteArray := [⟨#[110, 105, 108]⟩, ⟨#[116]⟩, ⟨#[113, 117, 111, 116, 101]⟩, ⟨#[102, 117, 110, 99, 116, 105, 111, 110]⟩, ⟨#[96]⟩, ⟨#[44]⟩, ⟨#[44, 64]⟩, ⟨#[108, 97, 109, 98, 100, 97]⟩, ⟨#[99, 108, 111, 115, 117, 114, 101]⟩, ⟨#[109, 97, 99, 114, 111]⟩, ⟨#[38, 114, 101, 115, 116]⟩, ⟨#[38, 111, 112, 116, 105, 111, 110, 97, 108]⟩, ⟨#[105, 102]⟩, ⟨#[99, 111, 110, 100]⟩, ⟨#[97, 110, 100]⟩, ⟨#[111, 114]⟩, ⟨#[119, 104, 105, 108, 101]⟩, ⟨#[112, 114, 111, 103, 110]⟩, ⟨#[112, 114, 111, 103, 49]⟩, ⟨#[115, 101, 116, 113]⟩, ⟨#[108, 101, 116]⟩, ⟨#[108, 101, 116, 42]⟩, ⟨#[99, 97, 116, 99, 104]⟩, ⟨#[117, 110, 119, 105, 110, 100, 45, 112, 114, 111, 116, 101, 99, 116]⟩, ⟨#[99, 111, 110, 100, 105, 116, 105, 111, 110, 45, 99, 97, 115, 101]⟩, ⟨#[100, 101, 102, 118, 97, 114]⟩, ⟨#[100, 101, 102, 99, 111, 110, 115, 116]⟩, ⟨#[100, 101, 102, 117, 110]⟩, ⟨#[100, 101, 102, 109, 97, 99, 114, 111]⟩, ⟨#[105, 110, 116, 101, 114, 97, 99, 116, 105, 118, 101]⟩, ⟨#[102, 117, 110, 99, 97, 108, 108]⟩, ⟨#[97, 112, 112, 108, 121]⟩, ⟨#[109, 97, 112, 99, 97, 114]⟩, ⟨#[109, 97, 112, 99]⟩, ⟨#[101, 118, 97, 108]⟩, ⟨#[116, 104, 114, 111, 119]⟩, ⟨#[115, 105, 103, 110, 97, 108]⟩, ⟨#[101, 114, 114, 111, 114]⟩, ⟨#[113, 117, 105, 116]⟩, ⟨#[118, 111, 105, 100, 45, 118, 97, 114, 105, 97, 98, 108, 101]⟩, ⟨#[118, 111, 105, 100, 45, 102, 117, 110, 99, 116, 105, 111, 110]⟩, ⟨#[119, 114, 111, 110, 103, 45, 116, 121, 112, 101, 45, 97, 114, 103, 117, 109, 101, 110, 116]⟩, ⟨#[119, 114, 111, 110, 103, 45, 110, 117, 109, 98, 101, 114, 45, 111, 102, 45, 97, 114, 103, 117, 109, 101, 110, 116, 115]⟩, ⟨#[97, 114, 103, 115, 45, 111, 117, 116, 45, 111, 102, 45, 114, 97, 110, 103, 101]⟩, ⟨#[97, 114, 105, 116, 104, 45, 101, 114, 114, 111, 114]⟩, ⟨#[111, 118, 101, 114, 102, 108, 111, 119, 45, 101, 114, 114, 111, 114]⟩, ⟨#[115, 101, 116, 116, 105, 110, 103, 45, 99, 111, 110, 115, 116, 97, 110, 116]⟩, ⟨#[110, 111, 45, 99, 97, 116, 99, 104]⟩, ⟨#[105, 110, 118, 97, 108, 105, 100, 45, 102, 117, 110, 99, 116, 105, 111, 110]⟩, ⟨#[105, 110, 118, 97, 108, 105, 100, 45, 114, 101, 97, 100, 45, 115, 121, 110, 116, 97, 120]⟩, ⟨#[101, 110, 100, 45, 111, 102, 45, 102, 105, 108, 101]⟩, ⟨#[99, 105, 114, 99, 117, 108, 97, 114, 45, 108, 105, 115, 116]⟩, ⟨#[101, 120, 99, 101, 115, 115, 105, 118, 101, 45, 108, 105, 115, 112, 45, 110, 101, 115, 116, 105, 110, 103]⟩, ⟨#[109, 101, 109, 111, 114, 121, 45, 102, 117, 108, 108]⟩, ⟨#[116, 101, 120, 116, 45, 114, 101, 97, 100, 45, 111, 110, 108, 121]⟩, ⟨#[98, 101, 103, 105, 110, 110, 105, 110, 103, 45, 111, 102, 45, 98, 117, 102, 102, 101, 114]⟩, ⟨#[101, 110, 100, 45, 111, 102, 45, 98, 117, 102, 102, 101, 114]⟩, ⟨#[115, 101, 97, 114, 99, 104, 45, 102, 97, 105, 108, 101, 100]⟩, ⟨#[105, 110, 118, 97, 108, 105, 100, 45, 114, 101, 103, 101, 120, 112]⟩, ⟨#[117, 115, 101, 114, 45, 101, 114, 114, 111, 114]⟩, ⟨#[98, 117, 102, 102, 101, 114, 45, 114, 101, 97, 100, 45, 111, 110, 108, 121]⟩, ⟨#[99, 121, 99, 108, 105, 99, 45, 102, 117, 110, 99, 116, 105, 111, 110, 45, 105, 110, 100, 105, 114, 101, 99, 116, 105, 111, 110]⟩]
theorem fx_nodup : fx.Nodup := by
  have h : decide fx.Nodup = true := by kernel_rfl
  exact of_decide_eq_true h
theorem fx_good : ∀ s ∈ fx, Good s ∧ s.size ≤ 1000000 := by
  have h : (fx.all fun s => validD s.data.toList && decide (lenL s.data.toList ≤ 1000) && decide (s.size ≤ 1000000)) = true := by kernel_rfl
  intro s hs
  have := List.all_eq_true.1 h s hs
  simp only [Bool.and_eq_true, decide_eq_true_eq] at this
  exact ⟨this.1, this.2⟩
theorem fx_length : fx.length = 62 := by kernel_rfl
/-- The table that New returns. -/
def t0 : Tb := tabL fx
theorem t0_length : t0.syms.length = 62 := by
  unfold t0 tabL
  rw [List.length_map, fx_length]

def fxa : Array Value := #[.string ⟨#[110, 105, 108]⟩, .string ⟨#[116]⟩, .string ⟨#[113, 117, 111, 116, 101]⟩, .string ⟨#[102, 117, 110, 99, 116, 105, 111, 110]⟩, .string ⟨#[96]⟩, .string ⟨#[44]⟩, .string ⟨#[44, 64]⟩, .string ⟨#[108, 97, 109, 98, 100, 97]⟩, .string ⟨#[99, 108, 111, 115, 117, 114, 101]⟩, .string ⟨#[109, 97, 99, 114, 111]⟩, .string ⟨#[38, 114, 101, 115, 116]⟩, .string ⟨#[38, 111, 112, 116, 105, 111, 110, 97, 108]⟩, .string ⟨#[105, 102]⟩, .string ⟨#[99, 111, 110, 100]⟩, .string ⟨#[97, 110, 100]⟩, .string ⟨#[111, 114]⟩, .string ⟨#[119, 104, 105, 108, 101]⟩, .string ⟨#[112, 114, 111, 103, 110]⟩, .string ⟨#[112, 114, 111, 103, 49]⟩, .string ⟨#[115, 101, 116, 113]⟩, .string ⟨#[108, 101, 116]⟩, .string ⟨#[108, 101, 116, 42]⟩, .string ⟨#[99, 97, 116, 99, 104]⟩, .string ⟨#[117, 110, 119, 105, 110, 100, 45, 112, 114, 111, 116, 101, 99, 116]⟩, .string ⟨#[99, 111, 110, 100, 105, 116, 105, 111, 110, 45, 99, 97, 115, 101]⟩, .string ⟨#[100, 101, 102, 118, 97, 114]⟩, .string ⟨#[100, 101, 102, 99, 111, 110, 115, 116]⟩, .string ⟨#[100, 101, 102, 117, 110]⟩, .string ⟨#[100, 101, 102, 109, 97, 99, 114, 111]⟩, .string ⟨#[105, 110, 116, 101, 114, 97, 99, 116, 105, 118, 101]⟩, .string ⟨#[102, 117, 110, 99, 97, 108, 108]⟩, .string ⟨#[97, 112, 112, 108, 121]⟩, .string ⟨#[109, 97, 112, 99, 97, 114]⟩, .string ⟨#[109, 97, 112, 99]⟩, .string ⟨#[101, 118, 97, 108]⟩, .string ⟨#[116, 104, 114, 111, 119]⟩, .string ⟨#[115, 105, 103, 110, 97, 108]⟩, .string ⟨#[101, 114, 114, 111, 114]⟩, .string ⟨#[113, 117, 105, 116]⟩, .string ⟨#[118, 111, 105, 100, 45, 118, 97, 114, 105, 97, 98, 108, 101]⟩, .string ⟨#[118, 111, 105, 100, 45, 102, 117, 110, 99, 116, 105, 111, 110]⟩, .string ⟨#[119, 114, 111, 110, 103, 45, 116, 121, 112, 101, 45, 97, 114, 103, 117, 109, 101, 110, 116]⟩, .string ⟨#[119, 114, 111, 110, 103, 45, 110, 117, 109, 98, 101, 114, 45, 111, 102, 45, 97, 114, 103, 117, 109, 101, 110, 116, 115]⟩, .string ⟨#[97, 114, 103, 115, 45, 111, 117, 116, 45, 111, 102, 45, 114, 97, 110, 103, 101]⟩, .string ⟨#[97, 114, 105, 116, 104, 45, 101, 114, 114, 111, 114]⟩, .string ⟨#[111, 118, 101, 114, 102, 108, 111, 119, 45, 101, 114, 114, 111, 114]⟩, .string ⟨#[115, 101, 116, 116, 105, 110, 103, 45, 99, 111, 110, 115, 116, 97, 110, 116]⟩, .string ⟨#[110, 111, 45, 99, 97, 116, 99, 104]⟩, .string ⟨#[105, 110, 118, 97, 108, 105, 100, 45, 102, 117, 110, 99, 116, 105, 111, 110]⟩, .string ⟨#[105, 110, 118, 97, 108, 105, 100, 45, 114, 101, 97, 100, 45, 115, 121, 110, 116, 97, 120]⟩, .string ⟨#[101, 110, 100, 45, 111, 102, 45, 102, 105, 108, 101]⟩, .string ⟨#[99, 105, 114, 99, 117, 108, 97, 114, 45, 108, 105, 115, 116]⟩, .string ⟨#[101, 120, 99, 101, 115, 115, 105, 118, 101, 45, 108, 105, 115, 112, 45, 110, 101, 115, 116, 105, 110, 103]⟩, .string ⟨#[109, 101, 109, 111, 114, 121, 45, 102, 117, 108, 108]⟩, .string ⟨#[116, 101, 120, 116, 45, 114, 101, 97, 100, 45, 111, 110, 108, 121]⟩, .string ⟨#[98, 101, 103, 105, 110, 110, 105, 110, 103, 45, 111, 102, 45, 98, 117, 102, 102, 101, 114]⟩, .string ⟨#[101, 110, 100, 45, 111, 102, 45, 98, 117, 102, 102, 101, 114]⟩, .string ⟨#[115, 101, 97, 114, 99, 104, 45, 102, 97, 105, 108, 101, 100]⟩, .string ⟨#[105, 110, 118, 97, 108, 105, 100, 45, 114, 101, 103, 101, 120, 112]⟩, .string ⟨#[117, 115, 101, 114, 45, 101, 114, 114, 111, 114]⟩, .string ⟨#[98, 117, 102, 102, 101, 114, 45, 114, 101, 97, 100, 45, 111, 110, 108, 121]⟩, .string ⟨#[99, 121, 99, 108, 105, 99, 45, 102, 117, 110, 99, 116, 105, 111, 110, 45, 105, 110, 100, 105, 114, 101, 99, 116, 105, 111, 110]⟩]
theorem fxa_toList : fxa.toList = fx.map Value.string := by kernel_rfl
theorem fxa_size : fxa.size = 62 := by kernel_rfl

def labN (n b : Nat) : Option TLab := if b = n then some .map else if b = n + 1 then some .hdr else none
theorem tab_start (w : World) (a : Array Value) (ty : TypeId) :
    TabIs (((w.alloc (.map #[] 0)).alloc (.cells #[.slice none 0 0, .map (some w.heap.size)] 109)).alloc (.cells a ty)) w.heap.size (w.heap.size + 1) (tabL []) (labN w.heap.size) ⟨.slice none 0 0, w.heap.size, fun _ => .slice none 0 0⟩ := by
  have hs : (w.alloc (.map #[] 0)).heap.size = w.heap.size + 1 := by simp
  have hB : Blk ((w.alloc (.map #[] 0)).alloc (.cells #[.slice none 0 0, .map (some w.heap.size)] 109)) (w.heap.size + 1) #[.slice none 0 0, .map (some w.heap.size)] 109 := by
    have := Blk.new (w.alloc (.map #[] 0)) #[.slice none 0 0, .map (some w.heap.size)] 109
    rw [hs] at this
    exact this
  have hk := ((Below.refl (w.alloc (.map #[] 0)).heap.size (w.alloc (.map #[] 0))).alloc (Nat.le_refl _) (.cells #[.slice none 0 0, .map (some w.heap.size)] 109)).alloc (by simp) (.cells a ty)
  exact {
    inb := fun b l hl => by
      unfold labN at hl
      simp
      split at hl
      · omega
      · split at hl
        · omega
        · cases hl
    hdr := by unfold labN; rw [if_neg (by omega), if_pos rfl]
    blk := hB.alloc _
    mlab := by unfold labN; rw [if_pos rfl]
    map := (MapIs.made w).keeps (Keeps.of_below hk : Keeps (fun _ => False) _ _) (fun h => h)
    syms := ⟨rfl, .inl ⟨rfl, rfl⟩⟩
    slab := fun k h => by cases h
    props := fun i s hs => by simp [tabL] at hs
    plab := fun i k h => by cases h
    tail := fun _ _ => rfl
    many := by simp [tabL]
    pmany := fun i s hs => by simp [tabL] at hs
    small := fun i s hs => by simp [tabL] at hs
    found := fun s n h => by simp [tabL, idx] at h
    sorted := fun i s hs => by simp [tabL] at hs }

set_option maxHeartbeats 4000000 in
theorem new_any (w : World) (hT : Tabs w) : Calls Tryz.prog 47 #[] w fun e w' => e = .returned (tptr (w.heap.size + 1)) ∧ Below w.heap.size w w' ∧ ∃ lab P, TabIs w' w.heap.size (w.heap.size + 1) t0 lab P := by
  have hmm := @run_makeMap Tryz.prog
  obtain ⟨w3, hw3⟩ : ∃ w3, w3 = (((w.alloc (.map #[] 0)).alloc (.cells #[.slice none 0 0, .map (some w.heap.size)] 109)).alloc (.cells fxa 9)) := ⟨_, rfl⟩
  have hb3 : Below w.heap.size w w3 := by rw [hw3]; exact (((Below.refl _ _).alloc (Nat.le_refl _) _).alloc (by simp) _).alloc (by simp; omega) _
  have hrow : Row w3 (w.heap.size + 1 + 1) (fx.map Value.string) := by
    refine ⟨fxa, 9, ?_, by rw [List.length_map, fx_length, fxa_size]; exact Nat.le_refl _, by rw [List.length_map, fx_length, fxa_toList, List.take_of_length_le (by rw [List.length_map, fx_length]; exact Nat.le_refl _)]⟩
    have := Blk.new ((w.alloc (.map #[] 0)).alloc (.cells #[.slice none 0 0, .map (some w.heap.size)] 109)) fxa 9
    rw [← hw3] at this
    simpa [Blk] using this
  have ht := tab_start w fxa 9
  rw [← hw3] at ht
  have hi := internAll_any (cap := 62) fx ht hb3.size fx_nodup fx_good (by rw [fx_length]; omega) (by rw [fx_length]; exact Nat.le_refl _) (by omega) hrow (by unfold labN; rw [if_neg (by omega), if_neg (by omega)]) (hT.below hb3) (fun W hW => hT.below (hb3.trans hW))
  rw [fx_length, hw3] at hi
  have HI := Lib.hid hi
  rw [hw3] at hb3
  have HB := Lib.hid hb3
  clear hT hi hrow ht hb3 hw3
  go_enter Tryz.func47, Tryz.ntmps47
  go_wp2_with fail
  refine HI.out.mono ?_
  rintro e w4 ⟨rfl, lab', P', hI⟩
  have HF := Lib.hid hI
  clear hI
  go_wp2_with fail
  go_ret
  exact ⟨rfl, HB.out.trans HF.out.below, _, _, HF.out.tab⟩
end Go.Proofs.YtlibdhnlmekmhaaGreatDoor.Nt
end

/- Read as one contract; a new heap and a new table. -/
section
namespace Go.Proofs.YtlibdhnlmekmhaaGreatDoor.Rd
set_option maxRecDepth 100000
open Go.RowKit Go.Maps Go.Lib
open Go.Proofs.YtlibdhnlmekmhaaGreatDoor.Own Go.Proofs.YtlibdhnlmekmhaaGreatDoor.Hp Go.Proofs.YtlibdhnlmekmhaaGreatDoor.Rep Go.Proofs.YtlibdhnlmekmhaaGreatDoor.Get Go.Proofs.YtlibdhnlmekmhaaGreatDoor.Add Go.Proofs.YtlibdhnlmekmhaaGreatDoor.Make Go.Proofs.YtlibdhnlmekmhaaGreatDoor.Utf Go.Proofs.YtlibdhnlmekmhaaGreatDoor.Strs Go.Proofs.YtlibdhnlmekmhaaGreatDoor.Clone
open Go.Proofs.YtlibdhnlmekmhaaGreatDoor.Nt hiding Wd

theorem read_any {w0 w : World} {base hp lim tp : Nat} {ob : Obs} {tb : Tb} {F : Nat → Prop} (h : HT w base hp lim tp ob tb F) (hb : Below w0.heap.size w0 w) (hbase : w0.heap.size ≤ base) (hS : Sys w0) (h1 : 0 < tb.syms.length)
    (u : ByteArray) (hu : u.size < 1000000) (hv : validD u.data.toList = true) (at_ : Int) {A : Ans} (hA : readR lim (runes u.data.toList) at_ ob tb = A) (hnf : A.c ≠ 7) :
    Calls Tryz.prog 16 #[ptr hp, tptr tp, .string u, .int .i64 at_] w (ReadOut w base hp lim tp F A.x A.en A.c A.k A.ob A.tb) := by
  obtain ⟨L, hL⟩ : ∃ L, runes u.data.toList = L := ⟨_, rfl⟩
  rw [hL] at hA
  unfold readR at hA
  by_cases hr : at_ < 0 ∨ (L.length : Int) < at_
  · rw [if_pos hr] at hA
    subst hA
    exact read_range h hb hbase hS h1 u hu hv hL at_ hr
  rw [if_neg hr] at hA
  obtain ⟨a, rfl⟩ : ∃ a : Nat, at_ = (a : Int) := ⟨at_.toNat, by omega⟩
  rw [Int.toNat_natCast] at hA
  have hle : a ≤ L.length := by omega
  by_cases hs : skipF false (L.drop a) = []
  · rw [if_pos hs] at hA
    subst hA
    exact read_end h hb hbase hS h1 u hu hv hL a hle hs
  rw [if_neg hs] at hA
  obtain ⟨c0, r0, hsk⟩ : ∃ c r, skipF false (L.drop a) = c :: r := by
    cases hq : skipF false (L.drop a) with
    | nil => exact (hs hq).elim
    | cons c r => exact ⟨c, r, rfl⟩
  rw [hsk] at hA
  cases hq : formM lim (2 * L.length + 1) 0 ⟨c0 :: r0, ob, tb⟩ with
  | err c m ob' tb' =>
    rw [hq] at hA
    unfold ansF at hA
    subst hA
    exact read_err h hb hbase hS h1 u hu hv hL a hle hsk hq hnf
  | ok x s' =>
    rw [hq] at hA
    unfold ansF at hA
    subst hA
    have := read_ok h hb hbase hS h1 u hu hv hL a hle hsk hq
    have hlt : s'.rest.length < (c0 :: r0).length := (formM_lt hq).2
    have h2 : (c0 :: r0).length ≤ L.length := by
      rw [← hsk]
      exact Nat.le_trans (skipF_suf _ false).length_le (by rw [List.length_drop]; omega)
    rw [show ((L.length - s'.rest.length : Nat) : Int) = (L.length : Int) - s'.rest.length by omega] at this
    exact this

theorem tab_low {w : World} {b0 b1 tp : Nat} {t : Tb} {lab : Nat → Option TLab} {P : TParts} (h : TabIs w b1 tp t lab P) (hb : b0 ≤ b1) : TabIs w b0 tp t lab P :=
  { h with
    inb := fun b l hl => ⟨Nat.le_trans hb (h.inb b l hl).1, (h.inb b l hl).2⟩
    syms := owns_low h.syms hb
    props := fun i s hs => owns_low (h.props i s hs) hb }
set_option maxHeartbeats 1000000 in
theorem fresh_any (limit : Nat) (hl1 : 1 ≤ limit) (hl2 : limit ≤ 65536) (w : World) (hT : Tabs w) :
    Calls Tryz.prog 15 #[.int .i64 (limit : Int)] w fun e w' => ∃ tp F, e = .returned (.tuple #[ptr w.heap.size, tptr tp]) ∧ HT w' w.heap.size w.heap.size limit tp Quick.noObs t0 F ∧ Below w.heap.size w w' := by
  have HN := Lib.hid (Quick.new_any limit hl1 hl2 w)
  have HT := Lib.hid hT
  clear hT
  go_enter Tryz.func15, Tryz.ntmps15
  go_wp2_with fail
  refine HN.out.mono ?_
  rintro e w1 ⟨rfl, hb1, hI⟩
  have HNw := Lib.hid (Nt.new_any w1 (HT.out.below hb1))
  have HB1 := Lib.hid hb1
  have HI := Lib.hid hI
  clear hb1 hI
  go_wp2_with fail
  refine HNw.out.mono ?_
  rintro e w2 ⟨rfl, hb2, lt, PT, hTab⟩
  have HB2 := Lib.hid hb2
  have HTab := Lib.hid hTab
  clear hb2 hTab
  go_wp2_with fail
  refine bodyPost_ret (v := .tuple #[ptr w.heap.size, tptr (w1.heap.size + 1)]) (by simp [results, Tryz.results15, go_sem]) rfl ?_
  have hH2 := HI.out.below HB2.out
  have hs := HB1.out.size
  have hs2 := HB2.out.size
  have hlt : w.heap.size < w1.heap.size := HI.out.blk.lt
  refine ⟨w1.heap.size + 1, _, rfl, ⟨by omega, _, lt, _, PT, hH2, tab_low HTab.out hs, fun b hb ht => ?_, fun _ => Iff.rfl⟩, HB1.out.trans (HB2.out.mono hs)⟩
  have hb' : b = w.heap.size := by
    by_cases e : b = w.heap.size
    · exact e
    · exact (hb (if_neg e)).elim
  cases hh : lt b with
  | none => exact ht hh
  | some l => have := (HTab.out.inb b l hh).1; omega
end Go.Proofs.YtlibdhnlmekmhaaGreatDoor.Rd
end

/- The contract of All. -/
section
namespace Go.Proofs.YtlibdhnlmekmhaaGreatDoor.Rd
set_option maxRecDepth 100000
open Go.RowKit Go.Maps Go.Lib
open Go.Proofs.YtlibdhnlmekmhaaGreatDoor.Own Go.Proofs.YtlibdhnlmekmhaaGreatDoor.Hp Go.Proofs.YtlibdhnlmekmhaaGreatDoor.Rep Go.Proofs.YtlibdhnlmekmhaaGreatDoor.Get Go.Proofs.YtlibdhnlmekmhaaGreatDoor.Add Go.Proofs.YtlibdhnlmekmhaaGreatDoor.Make Go.Proofs.YtlibdhnlmekmhaaGreatDoor.Utf Go.Proofs.YtlibdhnlmekmhaaGreatDoor.Strs Go.Proofs.YtlibdhnlmekmhaaGreatDoor.Clone
open Go.Proofs.YtlibdhnlmekmhaaGreatDoor.Nt hiding Wd

/-- The box of All's fault, and what it has done to the heap and the table. -/
structure RB (w w3 : World) (base hp lim tp : Nat) (F F' : Nat → Prop) (ob : Obs) (tb : Tb) (n : Nat) : Prop where
  hn : w.heap.size = n
  st : HT w3 base hp lim tp ob tb F' ∧ HAfter w w3 F F F' ∧ ¬ F' n
  b2 : Blk w3 n #[.int .i64 0, .int .i64 0] 31
theorem RB.keeps {w w3 V : World} {base hp lim tp n : Nat} {ob : Obs} {tb : Tb} {F F' : Nat → Prop} (h : RB w w3 base hp lim tp F F' ob tb n) (hk : Keeps (fun b => b = n) w3 V) : HT V base hp lim tp ob tb F' ∧ HAfter w V F F F' := by
  obtain ⟨h1, h2, h3⟩ := h.st
  have hn := h.hn
  refine ⟨h1.keeps hk fun b e => ?_, ⟨h2.keeps.then hk fun b hlt e => by omega, h2.grow⟩⟩
  rw [e]; assumption
theorem RB.par {w w3 w' : World} {n : Nat} {ob' : Obs} {tb' : Tb} {F F' : Nat → Prop} {X : Fx} (hn : w.heap.size = n) (hb : Below w.heap.size w w3) (b2 : Blk w3 n #[.int .i64 0, .int .i64 0] 31) (f2 : ¬ F n)
    (hp : n < X.p) (hH : HT w' X.base X.hp X.lim X.tp ob' tb' F') (hA : PAfter X w3 w' F F') : RB w w' X.base X.hp X.lim X.tp F F' ob' tb' n := by
  have hs := hb.size
  refine ⟨hn, ⟨hH, ⟨(Keeps.of_below hb).then hA.keeps fun b hlt e => e.elim id fun e => by omega, fun b hF => ?_⟩, hA.old b2.lt f2⟩, (hA.blk b2 f2 (by omega)).1⟩
  rcases hA.grow b hF with e | e
  · exact .inl e
  · exact .inr (by omega)
theorem allM_skip (lim k j : Nat) (acc : List Wd) (s : St) : allM lim k j acc ⟨skipF false s.rest, s.ob, s.tb⟩ = allM lim k j acc s := by
  cases j with
  | zero => rfl
  | succ j => unfold allM; simp only [skipF_skipF]
/-- Between two rounds: the forms so far. -/
def AllAt (X : Fx) (w2 wr : World) (F : Nat → Prop) (R : Res (List Wd)) (u : Value) : Prop :=
  ∃ (l : List Wd) (a' : Nat) (r : List Int) (ob : Obs) (tb : Tb) (F' : Nat → Prop) (j : Nat),
    PR X w2 wr a' 0 ⟨r, ob, tb⟩ F F' u l ∧ skipF false r = r ∧ allM X.lim (2 * X.l.length + 1) j l ⟨r, ob, tb⟩ = R ∧ r.length + 1 ≤ j ∧ l.length + r.length ≤ X.l.length
theorem AllAt.skip {X : Fx} {w2 wr wq : World} {a j : Nat} {s : St} {F F1 : Nat → Prop} {R : Res (List Wd)} {u : Value} {l : List Wd} (h : PR X w2 wr a 0 s F F1 u l) (hR : allM X.lim (2 * X.l.length + 1) j l s = R) (hj : s.rest.length + 1 ≤ j) (hl : l.length + s.rest.length ≤ X.l.length)
    (hA : At X wr wq 0 s F1 (fun r => r = skipF false s.rest)) : AllAt X w2 wq F R u := by
  obtain ⟨a', r, hP, hA, rfl⟩ := hA
  have := (skipF_suf s.rest false).length_le
  exact ⟨l, a', skipF false s.rest, s.ob, s.tb, F1, j, h.act hP hA, skipF_skipF _ _, by rw [allM_skip]; exact hR, by omega, by omega⟩
/-- What All answers. -/
def AllOut (w : World) (base hp lim tp : Nat) (F : Nat → Prop) (L : List Int) (R : Res (List Wd)) (e : Ending) (w' : World) : Prop :=
  match R with
  | .ok l s => (∃ A c, e = .returned (.tuple #[.slice A l.length c, .agg #[.int .i64 0, .int .i64 0]]) ∧ w'.ownsRow w.heap.size 28 2 (.slice A l.length c) l.length (wcells l) ∧ ∃ F', HT w' base hp lim tp s.ob s.tb F' ∧ HAfter w w' F F F' ∧ ∀ g, (Value.slice A l.length c).ownBlock = some g → ¬ F' g)
  | .err c m ob tb => e = .returned (.tuple #[.slice none 0 0, .agg #[.int .i64 c, .int .i64 ((L.length - m : Nat) : Int)]]) ∧ HTOk w w' base hp lim tp ob tb F

set_option maxHeartbeats 4000000 in
theorem all_yes {w0 w : World} {base hp lim tp : Nat} {ob : Obs} {tb : Tb} {F : Nat → Prop} (h : HT w base hp lim tp ob tb F) (hb : Below w0.heap.size w0 w) (hbase : w0.heap.size ≤ base) (hS : Sys w0) (h1 : 0 < tb.syms.length)
    (u : ByteArray) (hu : u.size < 1000000) (hv : validD u.data.toList = true) {L : List Int} (hL : runes u.data.toList = L) {R : Res (List Wd)} (hR : allM lim (2 * L.length + 1) (L.length + 1) [] ⟨L, ob, tb⟩ = R) (hnf : NF R) :
    Calls Tryz.prog 18 #[ptr hp, tptr tp, .string u] w (AllOut w base hp lim tp F L R) := by
  have hmf : ∀ (fn : Fn) (first cap : Array Value) (w : World), (Instr.makeFunc fn first cap).run Tryz.prog w = .ok (.func fn first cap) w := fun _ _ _ _ => rfl
  have hb2 : Below w.heap.size w (w.alloc fbox0) := bel_box _ _
  have HN := Lib.hid (newParser_ok (h.below hb2) (hb.trans (hb2.mono hb.size)) hbase hS h1 u hu hv)
  rw [hL] at HN
  have HF1 := Lib.hid (h.fresh (b := w.heap.size) (Nat.le_refl _))
  have HB2 := Lib.hid hb2
  have HRe := Lib.hid hR
  have HNF := Lib.hid hnf
  have HK2 := Lib.hid (Blk.new w #[.int .i64 0, .int .i64 0] 31)
  obtain ⟨n, hn⟩ : ∃ n, w.heap.size = n := ⟨_, rfl⟩
  have HNn := Lib.hid hn
  rw [hn] at HF1 HK2
  obtain ⟨i0, hi, hz0, hz1, hz2⟩ := info_parts word_info
  have HI := Lib.hid hi
  have HZ0 := Lib.hid hz0
  have HZ1 := Lib.hid hz1
  have HZ2 := Lib.hid hz2
  clear hi hz0 hz1 hz2
  clear h hb hbase hS h1 hu hv hL hb2 hR hnf hn
  go_enter_defers Tryz.func18, Tryz.ntmps18
  go_wp2_with fail
  rw [HNn.out]
  refine HN.out.mono ?_
  rintro e w3 ⟨X, hX, hw0, hbs, hhp, hlm, htp, hl, rfl, hP, hb3, hp3⟩
  have HEq := Lib.hid (show X.base = base ∧ X.hp = hp ∧ X.lim = lim ∧ X.tp = tp ∧ X.l = L from ⟨hbs, hhp, hlm, htp, hl⟩)
  have HX := Lib.hid hX
  have HP := Lib.hid hP
  have HB3 := Lib.hid hb3
  have HK3 := Lib.hid (HK2.out.below hb3)
  have HXp := Lib.hid (show n < X.p by have := HNn.out; simp at hp3; omega)
  clear hX hw0 hbs hhp hlm htp hl hP hb3 hp3
  go_wp2_with fail
  refine (HP.out.skip HX.out).mono ?_
  rintro e w4 ⟨rfl, hat⟩
  have HV := Lib.hid (AllAt.skip (R := R) (j := L.length + 1) (PR.start HP.out) (by rw [HEq.out.2.2.1, HEq.out.2.2.2.2]; exact HRe.out) (Nat.le_refl _) (by simp [HEq.out.2.2.2.2]) hat)
  clear hat
  go_wp2_with fail
  go_loopw [9] (fun u wr => AllAt X w3 wr F R u) (fun _ wr => X.l.length - atOf wr X.p)
  case atStart => exact HV.out
  case round =>
    obtain ⟨l, a1, q, ob1, tb1, F1, j, hPR, hsk, hj, hj2, hll⟩ := hrel
    have hs := HX.out.short
    obtain ⟨A0, cp0, rfl⟩ := hPR.len
    have HPR := Lib.hid hPR
    have HNx := Lib.hid (hPR.ps.next HX.out)
    obtain ⟨i, rfl⟩ : ∃ i, j = i + 1 := ⟨j - 1, by omega⟩
    unfold allM at hj
    simp only [hsk] at hj
    cases q with
    | nil =>
      rw [if_pos rfl] at hj
      dsimp only [nx] at HNx
      have HR5 := Lib.hid (RB.par HNn.out (HB2.out.trans (HB3.out.mono HB2.out.size)) HK3.out HF1.out HXp.out hPR.ps.ht hPR.aft)
      rw [HEq.out.1, HEq.out.2.1, HEq.out.2.2.1, HEq.out.2.2.2.1] at HR5
      have HRow := Lib.hid (owns_low (b0 := n) hPR.row (by have := HB2.out.size; have := HB3.out.size; have := HNn.out; omega))
      have HNb : Hid (∀ g, (Value.slice A0 l.length cp0).ownBlock = some g → g ≠ n) := fun g hg => by
        have h1 := (hPR.row.lt g hg).1
        have h2 := HK3.out.lt
        omega
      have HMi : Hid (∀ g, (Value.slice A0 l.length cp0).ownBlock = some g → ¬ F1 g) := fun g hg => (hPR.mine g hg).f
      have HJ := Lib.hid hj
      obtain ⟨f0, f1, f2, f3⟩ := HR5.out.b2.two
      clear hPR hsk hj hj2 hll hs
      go_wp2_with (first
        | (go_at_call 67; refine HNx.out.mono ?_; rintro e w' ⟨rfl, rfl⟩))
      go_region
      clear f0 f1 f2 f3
      have hk1 : Keeps (fun q => q = n) wr ((wr.setCell ⟨n, 0, none⟩ (.int .i64 0)).setCell ⟨n, 1, none⟩ (.int .i64 0)).drew := ⟨rfl, rfl, rfl, ((keeps_set wr n 0 (.int .i64 0)).trans (keeps_set _ n 1 (.int .i64 0))).size, ((keeps_set wr n 0 (.int .i64 0)).trans (keeps_set _ n 1 (.int .i64 0))).block⟩
      have hb2 : Blk ((wr.setCell ⟨n, 0, none⟩ (.int .i64 0)).setCell ⟨n, 1, none⟩ (.int .i64 0)).drew n #[.int .i64 0, .int .i64 0] 31 := by
        have h2 := (HR5.out.b2.set 0 (.int .i64 0)).set 1 (.int .i64 0)
        simpa [Blk, World.drew] using h2
      obtain ⟨W9, hW9⟩ : ∃ W9, ((wr.setCell ⟨n, 0, none⟩ (.int .i64 0)).setCell ⟨n, 1, none⟩ (.int .i64 0)).drew = W9 := ⟨_, rfl⟩
      rw [hW9] at hk1 hb2 ⊢
      clear hW9
      have hk2 := hk1.trans ((keeps_set W9 n 0 (.int .i64 0)).trans (keeps_set _ n 1 (.int .i64 0)))
      have hok := HR5.out.keeps hk2
      have hrw := owns_keeps HRow.out hk2 HNb.out
      have hb3 : Blk ((W9.setCell ⟨n, 0, none⟩ (.int .i64 0)).setCell ⟨n, 1, none⟩ (.int .i64 0)) n #[.int .i64 0, .int .i64 0] 31 := by simpa using (hb2.set 0 (.int .i64 0)).set 1 (.int .i64 0)
      have HB9 := Lib.hid hb2
      have HOk := Lib.hid (And.intro hok hrw)
      have HG := Lib.hid hb3.two
      clear hk1 hk2 hb2 hok hrw hb3
      go_wp2_with fail
      refine leaves_cons (f := 72) (args := #[.pointer (some ⟨n, 0, none⟩)]) (by simp) (by simp [go_sem]) ?_
      refine (idle_all n 0 0 _ HB9.out).mono ?_
      rintro e u' w'' ⟨rfl, rfl, rfl⟩
      obtain ⟨f0, f1, _, _⟩ := HG.out
      simp [Leaves, settle, results, Tryz.results18, go_sem, f0, f1]
      rw [← HJ.out]
      exact ⟨A0, cp0, rfl, by rw [HNn.out]; exact HOk.out.2, F1, HOk.out.1.1, HOk.out.1.2, HMi.out⟩
    | cons c0 r0 =>
      rw [if_neg (by simp)] at hj
      have hcc : isC c0 := HX.out.chars c0 (List.mem_of_mem_drop (by rw [hPR.ps.at_]; simp))
      have hv1 : (c0 != -1) = true := by have := hcc.1; simp; omega
      dsimp only [nx] at HNx
      have hNle : 2 * (c0 :: r0).length + 1 ≤ 2 * X.l.length + 1 := by omega
      cases hq : formM X.lim (2 * X.l.length + 1) 0 ⟨c0 :: r0, ob1, tb1⟩ with
      | err c m ob' tb' =>
        rw [hq] at hj
        dsimp only at hj
        have hRun : NF (formM X.lim (2 * X.l.length + 1) 0 ⟨c0 :: r0, ob1, tb1⟩) := by
          rw [hq]
          have := HNF.out
          rw [← hj] at this
          exact this
        have HFm := Lib.hid (formOk HX.out _ 0 _ _ (Nat.le_refl _) hNle _ _ _ _ hPR.ps (Nat.le_refl _) hRun)
        rw [hq] at HFm
        have HJ := Lib.hid hj
        clear hPR hsk hj hj2 hll hs hq hRun hcc hNle
        go_wp2_with (first
          | (go_at_call 67; refine HNx.out.mono ?_; rintro e w' ⟨rfl, rfl⟩))
        refine HFm.out.mono ?_
        rintro e w5 ⟨rfl, F', hH, hA⟩
        have HR5 := Lib.hid (RB.par HNn.out (HB2.out.trans (HB3.out.mono HB2.out.size)) HK3.out HF1.out HXp.out hH (HPR.out.aft.trans hA))
        rw [HEq.out.1, HEq.out.2.1, HEq.out.2.2.1, HEq.out.2.2.2.1] at HR5
        obtain ⟨k, hk⟩ : ∃ k : Nat, X.l.length - m = k := ⟨_, rfl⟩
        have HKk := Lib.hid hk
        unfold faultE
        rw [hk]
        clear hH hA hk
        go_wp2_with fail
        refine leaves_cons (f := 72) (args := #[.pointer (some ⟨n, 0, none⟩)]) (by simp) (by simp [go_sem]) ?_
        refine (catch_all n 0 0 c (k : Int) [] _ HR5.out.b2).mono ?_
        rintro e u' w'' ⟨rfl, rfl, rfl⟩
        have hok := HR5.out.keeps ((keeps_set w5 n 0 (.int .i64 c)).trans (keeps_set _ n 1 (.int .i64 (k : Int))))
        have hb9 : Blk ((w5.setCell ⟨n, 0, none⟩ (.int .i64 c)).setCell ⟨n, 1, none⟩ (.int .i64 (k : Int))) n #[.int .i64 c, .int .i64 (k : Int)] 31 := by simpa using (HR5.out.b2.set 0 (.int .i64 c)).set 1 (.int .i64 (k : Int))
        obtain ⟨f0, f1, _, _⟩ := hb9.two
        simp [Leaves, settle, results, Tryz.results18, go_sem, f0, f1]
        rw [← HJ.out]
        exact ⟨by rw [← HEq.out.2.2.2.2, HKk.out], F', hok.1, hok.2⟩
      | ok x s2 =>
        rw [hq] at hj
        dsimp only at hj
        have hlt := (formM_lt hq).2
        have hRun : NF (formM X.lim (2 * X.l.length + 1) 0 ⟨c0 :: r0, ob1, tb1⟩) := by rw [hq]; trivial
        have HFm := Lib.hid (formOk HX.out _ 0 _ _ (Nat.le_refl _) hNle _ _ _ _ hPR.ps (Nat.le_refl _) hRun)
        rw [hq] at HFm
        have HJ := Lib.hid hj
        have HLt := Lib.hid (show s2.rest.length < (c0 :: r0).length from hlt)
        have HBn := Lib.hid (show s2.rest.length + 1 ≤ i ∧ (l ++ [x]).length + s2.rest.length ≤ X.l.length by
          have : s2.rest.length < (c0 :: r0).length := hlt
          refine ⟨by omega, ?_⟩
          rw [List.length_append]
          simp at this hll ⊢
          omega)
        have HBd : Hid (l.length + 1 ≤ maxLen ∧ (l.length + 1) * 16 ≤ 140737488355328) := Lib.hid ⟨by unfold maxLen; omega, by omega⟩
        have HPa := Lib.hid hPR.ps.atIs
        have HPn := Lib.hid hPR.ps.n
        clear hPR hsk hj hj2 hll hs hq hRun hlt hcc hNle
        go_wp2_with (first
          | (go_at_call 67; refine HNx.out.mono ?_; rintro e w' ⟨rfl, rfl⟩))
        refine HFm.out.mono ?_
        rintro e w5 ⟨a5, F5, rfl, hP, hA⟩
        have HPR5 := Lib.hid (HPR.out.act hP hA)
        clear hP hA
        go_wp2_with (at_builtin; go_loud (refine wpList_append_place rfl (.tmp 22) (.tmp 25) 36 rfl w3.heap.size 28 i0 (.agg #[.int .i64 0, .int .i64 0]) 2 16 Tryz.underlying36 HI.out HZ0.out HZ1.out HZ2.out rfl (by decide) (.slice A0 l.length cp0) l.length (wcells l) rfl (HPR5.out.later (bel_box _ _)).row ⟨_, 0, none⟩ 1 1 [.int .i64 x.1, .int .i64 x.2] rfl rfl (new_cells _ _ _ _) (new_one _ _) HBd.out.1 HBd.out.2 (Nat.le_trans HPR5.out.aft.keeps.size (bel_box _ _).size) ?_))
        intro A6 c6 w6 hap
        have HPR6 := Lib.hid ((HPR5.out.later (bel_box _ _)).push hap)
        clear hap
        go_wp2_with fail
        refine (HPR6.out.ps.skip HX.out).mono ?_
        rintro e w7 ⟨rfl, hat⟩
        have HV7 := Lib.hid (AllAt.skip HPR6.out HJ.out HBn.out.1 HBn.out.2 hat)
        have HMe : Hid (X.l.length - atOf w7 X.p < X.l.length - atOf wr X.p) := by
          obtain ⟨a7, q7, hP7, _, rfl⟩ := hat
          have e1 := hP7.atIs
          have e2 := hP7.n
          have e3 := HPa.out
          have e4 := HPn.out
          have e5 := HLt.out
          have e6 := (skipF_suf s2.rest false).length_le
          show _ - _ < _ - _
          rw [e1, e3]
          simp at e2 e4 e5
          omega
        clear hat
        go_wp2_with fail
        go_roundw
        case rel => exact HV7.out
        case measure => exact HMe.out
end Go.Proofs.YtlibdhnlmekmhaaGreatDoor.Rd
end
