/- The contract of runes.List. | A parser in memory, and what its methods leave. -/
import Derived.Laws.RangeString
import Derived.Laws.RangeAny
import Derived.LoopTactic
import Derived.Lib.OthersKept
import Derived.WalkSmall
import Derived.OwnWalk
import Derived.Laws.MakeOwn
import Derived.Test.YtlibdhnlmekmhaaGreatDoorMgNames04
import Derived.Test.YtlibdhnlmekmhaaGreatDoorMgNames19
/- The contract of runes.List. -/
section
namespace Go.Proofs.YtlibdhnlmekmhaaGreatDoor.Lst
set_option maxRecDepth 100000
open Go.RowKit Go.Shelf Go.Lib
open Go.Proofs.YtlibdhnlmekmhaaGreatDoor.Utf Go.Proofs.YtlibdhnlmekmhaaGreatDoor.Strs

theorem int_info : (Tryz.prog.info? 3).map (fun i => (i.zero, i.size, i.bytes)) = some (some (.int .i64 0), 1, 8) := by kernel_rfl

/-- An owned row stays where a string's iterator moves on. -/
theorem owns_iter {w : World} {base : Nat} {e : TypeId} {size : Nat} {v : Value} {n : Nat} {xs : List Value} (h : w.ownsRow base e size v n xs) {k : Nat} {s : ByteArray} {pos : Nat} (hk : w.heap[k]? = some (.stringIter s pos)) (pos' : Nat) :
    (w.iterAt k s pos').ownsRow base e size v n xs := by
  refine ⟨h.1, ?_⟩
  rcases h.2 with h0 | ⟨g, cap, cur, hv, hb, hg, rest⟩
  · exact .inl h0
  · refine .inr ⟨g, cap, cur, hv, hb, ?_, rest⟩
    rw [iterAt_other _ _ _ _ _ (by rintro rfl; rw [hk] at hg; cases hg)]
    exact hg
/-- An iterator is no owned row. -/
theorem owns_ne {w : World} {base : Nat} {e : TypeId} {size : Nat} {v : Value} {n : Nat} {xs : List Value} (h : w.ownsRow base e size v n xs) {k : Nat} {s : ByteArray} {pos : Nat} (hk : w.heap[k]? = some (.stringIter s pos)) : some k ≠ v.ownBlock := by
  rcases h.2 with ⟨rfl, _⟩ | ⟨g, cap, cur, rfl, hb, hg, rest⟩
  · simp [Value.ownBlock]
  · simp only [Value.ownBlock, ne_eq, Option.some.injEq]
    rintro rfl
    rw [hk] at hg
    cases hg

/-- The value, the row and the world that List leaves. -/
def Lists (w : World) (l : List UInt8) (e : Ending) (w' : World) : Prop :=
  ∃ g cap n, e = .returned (.tuple #[.slice (some ⟨g, 0, none⟩) n cap, .int .i64 0]) ∧ n = (runes l).length ∧ w'.ownsRow w.heap.size 3 1 (.slice (some ⟨g, 0, none⟩) n cap) n ((runes l).map (Value.int .i64)) ∧ Below w.heap.size w w'

theorem list_no (s : ByteArray) (w : World) (hs : s.size < 9223372036854775807) (hT : Tabs w) (hv : validD s.data.toList = false) :
    Calls Tryz.prog 119 #[.string s] w fun e w' => e = .returned (.tuple #[.slice none 0 0, .int .i64 5]) ∧ Below w.heap.size w w' := by
  have h := valid_any s w (by omega) hT
  rw [hv] at h
  have HV := Lib.hid h
  clear h hv
  go_enter Tryz.func119, Tryz.ntmps119
  go_wp2_with (go_at_call 162; refine HV.out.mono ?_; rintro e w' ⟨rfl, hb⟩)
  go_ret2
  exact ⟨rfl, hb⟩

set_option maxHeartbeats 2000000 in
theorem list_yes (s : ByteArray) (w : World) (hs : s.size < 1000000) (hT : Tabs w) (hv : validD s.data.toList = true) :
    Calls Tryz.prog 119 #[.string s] w (Lists w s.data.toList) := by
  have h := valid_any s w (by omega) hT
  rw [hv] at h
  have HV := Lib.hid h
  clear h hv
  have HC := Lib.hid (fun w' => Tryz.utf8_RuneCountInString s w' (by omega))
  have hle := runeCount_le s
  obtain ⟨i0, hi, hz0, hz1, hz2⟩ := info_parts int_info
  have HI := Lib.hid hi
  have HZ0 := Lib.hid hz0
  have HZ1 := Lib.hid hz1
  have HZ2 := Lib.hid hz2
  clear hi hz0 hz1 hz2
  obtain ⟨R, hR⟩ : ∃ R, runes s.data.toList = R := ⟨_, rfl⟩
  have hR0 : runes (from_ s 0) = R := hR
  have HR0 := Lib.hid hR0
  have HRL := Lib.hid (show runeCount s = R.length by rw [runeCount_eq, hR])
  unfold Lists
  rw [hR]
  clear hR hR0
  generalize runeCount s = rc at *
  go_enter Tryz.func119, Tryz.ntmps119
  go_wp2_with (first
    | (go_at_call 162; refine HV.out.mono ?_; rintro e w1 ⟨rfl, hb⟩)
    | (go_at_call 163; refine (HC.out _).mono ?_; rintro e w2 ⟨rfl, pos0, rfl⟩)
    | (at_make; refine wpList_make_own _ rfl _ _ 50 rfl w.heap.size 3 i0 (.int .i64 0) 1 Tryz.underlying50 HI.out HZ0.out HZ1.out .i64 .i64 _ rc rfl rfl rfl ?b2 ?b3 ?b4 ?_))
  case b2 => rw [HZ2.out]; omega
  case b3 => unfold maxLen; omega
  case b4 => have := hb.size; simp [World.iter]; omega
  intro w3 hown hgr
  have hb3 : Below w.heap.size w w3 := (hb.alloc hb.size _).grown hgr (by have := hb.size; simp; omega) (by simp)
  clear HV HC hb hgr
  go_wp2
  go_loopw [4] (fun v wr => ∃ (pos k : Nat), wr.heap[w3.heap.size]? = some (.stringIter s pos) ∧ k ≤ pos ∧ Hid (runes (from_ s pos) = R.drop k) ∧ k ≤ R.length ∧ Below w.heap.size w wr ∧ wr.ownsRow w.heap.size 3 1 v k ((R.take k).map (Value.int .i64)) ∧ Hid (∃ g cap, v = .slice (some ⟨g, 0, none⟩) k cap)) (fun _ wr => s.size - wr.iterPos w3.heap.size)
  case atStart => exact ⟨0, 0, World.iter_heap _ _ _, Nat.le_refl _, HR0.out, Nat.zero_le _, hb3.alloc hb3.size _, by rw [List.take_zero]; exact hown.alloc _, ⟨_, _, rfl⟩⟩
  case round =>
    obtain ⟨pos, k, hit, hkp, HI2, hkR, hbr, hownr, HV⟩ := hrel
    by_cases hp : pos < s.size
    · have hnx : ∀ ty, (Instr.next (.pointer (some ⟨w3.heap.size, 0, none⟩)) true ty).run Tryz.prog wr = _ := fun ty => run_next_any_at wr w3.heap.size s pos ty hit hp
      have hwd := decode_width_pos s pos hp
      have hle2 := decode_le s pos
      have hst := runes_from s pos hp
      rw [HI2.out] at hst
      have hkR2 : k < R.length := by
        have := congrArg List.length hst
        simp at this
        omega
      have hRk : R.take (k + 1) = R.take k ++ [((Utf8.decode s pos).1 : Int)] := by
        have h2 : R[k]? = some ((Utf8.decode s pos).1 : Int) := by rw [← List.head?_drop, hst]; rfl
        rw [List.take_add_one, h2]; rfl
      have hnext : Hid (runes (from_ s (pos + (Utf8.decode s pos).2)) = R.drop (k + 1)) := by
        show _ = _
        rw [← List.tail_drop, hst]
        rfl
      have hit2 := iterAt_heap wr w3.heap.size s pos (pos + (Utf8.decode s pos).2) hit
      have hown2 := owns_iter hownr hit (pos + (Utf8.decode s pos).2)
      have hbr2 := below_iterAt hbr hb3.size s (pos + (Utf8.decode s pos).2)
      have hK : w3.heap.size < (wr.iterAt w3.heap.size s (pos + (Utf8.decode s pos).2)).heap.size := (Array.getElem?_eq_some_iff.1 hit2).1
      have hne := owns_ne hown2 hit2
      have HRk := Lib.hid hRk
      have Hit0 := Lib.hid hit
      clear hst hRk HI2 hit hownr hbr
      generalize Utf8.decode s pos = D at *
      obtain ⟨d, dw⟩ := D
      have hdle : (d : Int) ≤ 2147483647 := by have : d ≤ 2147483647 := hle2; omega
      have hwd' : 1 ≤ dw := hwd
      have HRk' : Hid (R.take (k + 1) = R.take k ++ [(d : Int)]) := HRk
      have hnext' : Hid (runes (from_ s (pos + dw)) = R.drop (k + 1)) := hnext
      clear hle2 hwd HRk hnext
      obtain ⟨wi, hwi⟩ : ∃ wi, wi = wr.iterAt w3.heap.size s (pos + dw) := ⟨_, rfl⟩
      change ∀ ty, (Instr.next (.pointer (some ⟨w3.heap.size, 0, none⟩)) true ty).run Tryz.prog wr = .ok (.tuple #[.bool true, .int .i64 pos, .int .i32 d]) (wr.iterAt w3.heap.size s (pos + dw)) at hnx
      rw [← hwi] at hnx
      have hown2' : wi.ownsRow w.heap.size 3 1 u4 k ((R.take k).map (Value.int .i64)) := by rw [hwi]; exact hown2
      have hit2' : wi.heap[w3.heap.size]? = some (.stringIter s (pos + dw)) := by rw [hwi]; exact hit2
      have hbr2' : Below w.heap.size w wi := by rw [hwi]; exact hbr2
      have hK' : w3.heap.size < wi.heap.size := by rw [hwi]; exact hK
      clear hwi hown2 hit2 hbr2 hK
      have Hit := Lib.hid hit2'
      clear hit2'
      go_wp2_with (at_builtin; refine wpList_append_own _ rfl (.tmp 18) (.tmp 21) 50 rfl w.heap.size 3 i0 (.int .i64 0) 1 8 Tryz.underlying50 HI.out HZ0.out HZ1.out HZ2.out rfl (by decide) _ _ _ rfl (hown2'.alloc _) ⟨wi.heap.size, 0, none⟩ 1 1 [.int .i64 d] rfl rfl ?c1 ?c2 ?c3 ?c4 ?c5 ?_)
      case c1 =>
        intro j u hj
        match j, hj with
        | 0, hj => simp at hj; subst hj; simp [Addr.add]
        | (j + 1), hj => simp at hj
      case c2 => intro u hu; simp at hu; subst hu; rfl
      case c3 => unfold maxLen; omega
      case c4 => omega
      case c5 => have := hbr2'.size; simp; omega
      intro v' w5 hown5 hgr5 _
      have hit5 : w5.heap[w3.heap.size]? = some (.stringIter s (pos + dw)) := by
        rw [hgr5.block w3.heap.size (by simp; omega) hne, Below.heap_alloc wi _ w3.heap.size hK']
        exact Hit.out
      have hbr5 : Below w.heap.size w w5 := (hbr2'.alloc hbr2'.size _).grown hgr5 (by have := hbr2'.size; simp; omega) (fun g hg => (hown2'.lt g hg).1)
      have Hit5 := Lib.hid hit5
      have HV5 : Hid (∃ g cap, v' = .slice (some ⟨g, 0, none⟩) (k + 1) cap) := by
        rcases hown5.2 with ⟨_, h0⟩ | ⟨g, cap, cur, hv, _⟩
        · omega
        · exact ⟨g, cap, hv⟩
      clear hit5 hgr5 hnx
      go_wp2
      go_roundw
      case rel => exact ⟨pos + dw, k + 1, Hit5.out, by omega, hnext', by omega, hbr5, by rw [HRk'.out, List.map_append, List.map_take]; exact hown5, HV5⟩
      case measure =>
        have e1 : w5.iterPos w3.heap.size = pos + dw := by simp [World.iterPos, Hit5.out]
        have e2 : wr.iterPos w3.heap.size = pos := by simp [World.iterPos, Hit0.out]
        omega
    · have hnx : ∀ ty, (Instr.next (.pointer (some ⟨w3.heap.size, 0, none⟩)) true ty).run Tryz.prog wr = _ := fun ty => run_next_end_at wr w3.heap.size s pos ty hit hp
      have HD := HI2.out
      rw [runes_from_end s pos hp] at HD
      have hkl : R.length = k := by have := congrArg List.length HD; simp at this; omega
      have htake : R.take k = R := List.take_of_length_le (by omega)
      rw [htake] at hownr
      clear HD HI2 htake
      obtain ⟨g, cap, rfl⟩ := HV.out
      go_wp2
      go_ret2
      exact ⟨g, cap, k, rfl, hkl.symm, hownr, hbr⟩
end Go.Proofs.YtlibdhnlmekmhaaGreatDoor.Lst
end

/- A parser in memory, and what its methods leave. -/
section
namespace Go.Proofs.YtlibdhnlmekmhaaGreatDoor.Rd
set_option maxRecDepth 100000
open Go.RowKit
open Go.Proofs.YtlibdhnlmekmhaaGreatDoor.Own Go.Proofs.YtlibdhnlmekmhaaGreatDoor.Hp Go.Proofs.YtlibdhnlmekmhaaGreatDoor.Rep Go.Proofs.YtlibdhnlmekmhaaGreatDoor.Get Go.Proofs.YtlibdhnlmekmhaaGreatDoor.Add Go.Proofs.YtlibdhnlmekmhaaGreatDoor.Make Go.Proofs.YtlibdhnlmekmhaaGreatDoor.Strs Go.Proofs.YtlibdhnlmekmhaaGreatDoor.Clone Go.Proofs.YtlibdhnlmekmhaaGreatDoor.Utf
open Go.Proofs.YtlibdhnlmekmhaaGreatDoor.Nt hiding Wd

/-- The library's variables that the reader reads. -/
def ErrVar (w : World) : Prop := ∃ ev, w.cell? ⟨4, 0, none⟩ = some ev ∧ (ev = .nilIface ∨ ∃ te pe, ev = .iface te pe)
theorem ErrVar.below {w w' : World} (h : ErrVar w) (hb : Below w.heap.size w w') : ErrVar w' := by
  obtain ⟨ev, h1, h2⟩ := h
  exact ⟨ev, (hb.cell (World.block_lt_of_cell? _ _ h1)).trans h1, h2⟩
structure Sys (w : World) : Prop where
  tabs : Tabs w
  err : ErrVar w
theorem Sys.below {w w' : World} (h : Sys w) (hb : Below w.heap.size w w') : Sys w' := ⟨h.tabs.below hb, h.err.below hb⟩

/-- What of a parser does not change: the world in which the statement began, the blocks, the characters. -/
structure Fx where
  w0 : World
  base : Nat
  hp : Nat
  lim : Nat
  tp : Nat
  p : Nat
  g : Nat
  mb : Nat
  cap : Nat
  l : List Int
structure Fx.Ok (X : Fx) : Prop where
  sys : Sys X.w0
  lowb : X.w0.heap.size ≤ X.base
  lowp : X.w0.heap.size ≤ X.p
  short : X.l.length ≤ 1000000
  chars : ∀ c ∈ X.l, isC c
  pg : X.g ≠ X.p
  pm : X.mb ≠ X.p

abbrev pptr (p : Nat) : Value := .pointer (some ⟨p, 0, none⟩)
abbrev fnv (f : FuncId) : Value := .func (.func f) #[] #[]
/-- The methods that read forms, by the first characters. -/
def rdF (x : Int) : Option Value :=
  if x = 40 then some (fnv 121)
  else if x = 41 ∨ x = 93 then some (fnv 122)
  else if x = 91 then some (fnv 123)
  else if x = 39 then some (fnv 124)
  else if x = 96 then some (fnv 125)
  else if x = 44 then some (fnv 126)
  else if x = 35 then some (fnv 127)
  else if x = 34 then some (fnv 128)
  else if x = 63 then some (fnv 129)
  else none

/-- A parser at position a, with op brackets open, in front of what s tells. -/
structure PS (X : Fx) (w : World) (a op : Nat) (s : St) (F : Nat → Prop) : Prop where
  below : Below X.w0.heap.size X.w0 w
  ht : HT w X.base X.hp X.lim X.tp s.ob s.tb F
  blk : Blk w X.p #[ptr X.hp, tptr X.tp, .slice (some ⟨X.g, 0, none⟩) X.l.length X.cap, .int .i64 (a : Int), .int .i64 (op : Int), .map (some X.mb)] 91
  at_ : X.l.drop a = s.rest
  le : a ≤ X.l.length
  row : Row w X.g (X.l.map (Value.int .i64))
  map : Mp.MapOf w X.mb rdF
  fp : ¬ F X.p
  fg : ¬ F X.g
  fm : ¬ F X.mb
  opl : op ≤ 200
/-- What a method leaves. -/
def PAfter (X : Fx) (w w' : World) (F F' : Nat → Prop) : Prop := HAfter w w' (fun b => F b ∨ b = X.p) F F'
theorem PAfter.refl (X : Fx) (w : World) (F : Nat → Prop) : PAfter X w w F F := HAfter.refl _ _ _
theorem PAfter.of_below {X : Fx} {w w' : World} {F : Nat → Prop} (h : Below w.heap.size w w') : PAfter X w w' F F := HAfter.below h
theorem PAfter.trans {X : Fx} {w w1 w2 : World} {F F1 F2 : Nat → Prop} (h : PAfter X w w1 F F1) (k : PAfter X w1 w2 F1 F2) : PAfter X w w2 F F2 :=
  HAfter.trans h k fun b hb => by
    rcases hb with hb | hb
    · rcases h.grow b hb with e | e
      · exact .inl (.inl e)
      · exact .inr e
    · exact .inl (.inr hb)
theorem PS.n {X : Fx} {w : World} {a op : Nat} {s : St} {F : Nat → Prop} (h : PS X w a op s F) : a + s.rest.length = X.l.length := by
  rw [← h.at_, List.length_drop]
  have := h.le
  omega
theorem PS.pos {X : Fx} {w : World} {a op : Nat} {s : St} {F : Nat → Prop} (h : PS X w a op s F) : X.l.length - s.rest.length = a := by
  have := h.n
  omega
theorem PS.sys {X : Fx} {w : World} {a op : Nat} {s : St} {F : Nat → Prop} (h : PS X w a op s F) (hX : X.Ok) : Sys w := hX.sys.below h.below
theorem PS.high {X : Fx} {w : World} {a op : Nat} {s : St} {F : Nat → Prop} (h : PS X w a op s F) (hX : X.Ok) : ∀ b, (F b ∨ b = X.p) → X.w0.heap.size ≤ b := fun b hb => by
  rcases hb with hb | hb
  · exact Nat.le_trans hX.lowb (h.ht.lt hb).1
  · rw [hb]; exact hX.lowp
/-- Where nothing of the parser's is written. -/
theorem PS.keeps {X : Fx} {w w' : World} {a op : Nat} {s : St} {F G : Nat → Prop} (h : PS X w a op s F) (hk : Keeps G w w') (hG : ∀ b, G b → ¬ F b ∧ b ≠ X.p ∧ b ≠ X.g ∧ b ≠ X.mb ∧ X.w0.heap.size ≤ b) : PS X w' a op s F where
  below := h.below.trans (hk.below h.below.size fun b hb => (hG b hb).2.2.2.2)
  ht := h.ht.keeps hk fun b hb => (hG b hb).1
  blk := h.blk.keeps hk fun hb => (hG _ hb).2.1 rfl
  at_ := h.at_
  le := h.le
  row := h.row.keeps hk fun hb => (hG _ hb).2.2.1 rfl
  map := h.map.keeps hk fun hb => (hG _ hb).2.2.2.1 rfl
  fp := h.fp
  fg := h.fg
  fm := h.fm
  opl := h.opl
theorem PS.later {X : Fx} {w w' : World} {a op : Nat} {s : St} {F : Nat → Prop} (h : PS X w a op s F) (hb : Below w.heap.size w w') : PS X w' a op s F :=
  h.keeps (G := fun _ => False) (.of_below hb) fun _ hf => hf.elim
theorem PS.alloc {X : Fx} {w : World} {a op : Nat} {s : St} {F : Nat → Prop} (h : PS X w a op s F) (o : Obj) : PS X (w.alloc o) a op s F := h.later ((Below.refl _ _).alloc (Nat.le_refl _) o)
/-- A block of the caller's own that is written, laid since. -/
theorem PS.write {X : Fx} {w w' : World} {a op B : Nat} {s : St} {F : Nat → Prop} (h : PS X w a op s F) (hk : Keeps (fun b => b = B) w w') (h1 : ¬ F B) (h2 : B ≠ X.p) (h3 : B ≠ X.g) (h4 : B ≠ X.mb) (h5 : X.w0.heap.size ≤ B) : PS X w' a op s F :=
  h.keeps hk fun b hb => by subst hb; exact ⟨h1, h2, h3, h4, h5⟩
/-- The parser's own cells. -/
theorem Blk.six {w : World} {g : Nat} {a b c d e f : Value} {t : TypeId} (h : Blk w g #[a, b, c, d, e, f] t) : w.cell? ⟨g, 0, none⟩ = some a ∧ w.cell? ⟨g, 1, none⟩ = some b ∧ w.cell? ⟨g, 2, none⟩ = some c ∧ w.cell? ⟨g, 3, none⟩ = some d ∧ w.cell? ⟨g, 4, none⟩ = some e ∧ w.cell? ⟨g, 5, none⟩ = some f :=
  ⟨h.cell 0 _ rfl, h.cell 1 _ rfl, h.cell 2 _ rfl, h.cell 3 _ rfl, h.cell 4 _ rfl, h.cell 5 _ rfl⟩
theorem keeps_set (w : World) (p k : Nat) (v : Value) : Keeps (fun b => b = p) w (w.setCell ⟨p, k, none⟩ v) := (Keeps.refl (fun b => b = p) w).setCell ⟨p, k, none⟩ v fun _ => rfl
theorem PS.turn {X : Fx} {w w' : World} {a a' op op' : Nat} {s s' : St} {F : Nat → Prop} (h : PS X w a op s F) (hX : X.Ok) (hk : Keeps (fun b => b = X.p) w w')
    (hB : Blk w' X.p #[ptr X.hp, tptr X.tp, .slice (some ⟨X.g, 0, none⟩) X.l.length X.cap, .int .i64 (a' : Int), .int .i64 (op' : Int), .map (some X.mb)] 91) (hob : s'.ob = s.ob) (htb : s'.tb = s.tb) (hat : X.l.drop a' = s'.rest) (hle : a' ≤ X.l.length) (hop : op' ≤ 200) :
    PS X w' a' op' s' F ∧ PAfter X w w' F F := by
  refine ⟨{
    below := h.below.trans (hk.below h.below.size fun b hb => by rw [hb]; exact hX.lowp)
    ht := by rw [hob, htb]; exact h.ht.keeps hk fun b hb hf => by rw [hb] at hf; exact h.fp hf
    blk := hB
    at_ := hat
    le := hle
    row := h.row.keeps hk fun e => hX.pg e
    map := h.map.keeps hk fun e => hX.pm e
    fp := h.fp
    fg := h.fg
    fm := h.fm
    opl := hop }, ⟨hk.mono fun b _ e => .inr e, fun b hb => .inl hb⟩⟩
/-- The parser moves. -/
theorem PS.move {X : Fx} {w : World} {a op : Nat} {s : St} {F : Nat → Prop} (h : PS X w a op s F) (hX : X.Ok) (a' : Nat) (hle : a' ≤ X.l.length) (v : Value) (hv : v = .int .i64 (a' : Int)) :
    PS X (w.setCell ⟨X.p, 3, none⟩ v) a' op ⟨X.l.drop a', s.ob, s.tb⟩ F ∧ PAfter X w (w.setCell ⟨X.p, 3, none⟩ v) F F := by
  subst hv
  exact h.turn hX (keeps_set _ _ _ _) (by simpa using h.blk.set 3 (.int .i64 (a' : Int))) rfl rfl rfl hle h.opl
/-- A bracket is opened or shut. -/
theorem PS.nest {X : Fx} {w : World} {a op : Nat} {s : St} {F : Nat → Prop} (h : PS X w a op s F) (hX : X.Ok) (op' : Nat) (hle : op' ≤ 200) (v : Value) (hv : v = .int .i64 (op' : Int)) :
    PS X (w.setCell ⟨X.p, 4, none⟩ v) a op' s F ∧ PAfter X w (w.setCell ⟨X.p, 4, none⟩ v) F F := by
  subst hv
  exact h.turn hX (keeps_set _ _ _ _) (by simpa using h.blk.set 4 (.int .i64 (op' : Int))) rfl rfl h.at_ h.le hle
/-- Behind a change of the heap or the table. -/
theorem PS.ofHT {X : Fx} {w w' : World} {a op : Nat} {s : St} {ob : Obs} {tb : Tb} {F : Nat → Prop} (h : PS X w a op s F) (hX : X.Ok) (hok : HTOk w w' X.base X.hp X.lim X.tp ob tb F) : ∃ F', PS X w' a op ⟨s.rest, ob, tb⟩ F' ∧ PAfter X w w' F F' := by
  obtain ⟨F', hH, hA⟩ := hok
  have hn : ∀ b, ¬ F b → b < w.heap.size → ¬ F' b := fun b hb hlt hf => by
    rcases hA.grow b hf with e | e
    · exact hb e
    · omega
  refine ⟨F', {
    below := h.below.trans (hA.keeps.below h.below.size fun b hb => h.high hX b (.inl hb))
    ht := hH
    blk := h.blk.keeps hA.keeps h.fp
    at_ := h.at_
    le := h.le
    row := h.row.keeps hA.keeps h.fg
    map := h.map.keeps hA.keeps h.fm
    fp := hn _ h.fp h.blk.lt
    fg := hn _ h.fg h.row.lt
    fm := hn _ h.fm h.map.lt
    opl := h.opl }, hA.mono fun b hb => .inl hb⟩
/-- A block of the caller's own that a method leaves alone. -/
theorem PAfter.blk {X : Fx} {w w' : World} {F F' : Nat → Prop} {b : Nat} {cs : Array Value} {t : TypeId} (h : PAfter X w w' F F') (hB : Blk w b cs t) (h1 : ¬ F b) (h2 : b ≠ X.p) : Blk w' b cs t ∧ ¬ F' b :=
  ⟨hB.keeps h.keeps fun e => e.elim h1 h2, fun e => by
    rcases h.grow b e with e | e
    · exact h1 e
    · have := hB.lt; omega⟩
theorem PAfter.old {X : Fx} {w w' : World} {F F' : Nat → Prop} {b : Nat} (h : PAfter X w w' F F') (hlt : b < w.heap.size) (h1 : ¬ F b) : ¬ F' b := fun e => by
  rcases h.grow b e with e | e
  · exact h1 e
  · omega

/-- A panic with a fault. -/
def faultE (c : Int) (k : Nat) : Ending := .panicked [{ v := .iface 31 (.agg #[.int .i64 c, .int .i64 (k : Int)]), recovered := false }]
/-- How a method that reads ends: as the plain reader does. -/
def Out {α : Type} (X : Fx) (w : World) (op : Nat) (F : Nat → Prop) (ret : α → Ending → World → (Nat → Prop) → Prop) (R : Res α) (e : Ending) (w' : World) : Prop :=
  match R with
  | .ok x s' => ∃ a' F', ret x e w' F' ∧ PS X w' a' op s' F' ∧ PAfter X w w' F F'
  | .err c m ob tb => e = faultE c (X.l.length - m) ∧ ∃ F', HT w' X.base X.hp X.lim X.tp ob tb F' ∧ PAfter X w w' F F'
def retW (x : Wd) (e : Ending) (_ : World) (_ : Nat → Prop) : Prop := e = .returned (wd x)
end Go.Proofs.YtlibdhnlmekmhaaGreatDoor.Rd
end
