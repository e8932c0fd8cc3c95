/- A parser in memory, and what its methods leave. | What the cards of the reader's statements share: the variables as the row lists them, and a world that holds them. | The contracts of the parser's small methods: look, next, ends, take, skip, open. -/
import Derived.Test.YtlibdhnlmekmhaaGreatDoorCards
import Derived.Test.YtlibdhnlmekmhaaGreatDoorTie
import Derived.Lib.LaidIn
import Derived.Lib.LaidU8T
import Derived.PinnedBridge
import Derived.Deep.DeepHandedRow
import Derived.Deep.DeepWitnessRowRef
import Derived.ProofKit
import Derived.SizedLaws
import Derived.OpenShut
import Derived.ShutString
import Derived.ChangeOld
import Derived.Below
import Derived.WalkLawsBesides
import Derived.IntWalk
import Derived.LoopTactic
import Derived.Outline
import Derived.Test.YtlibdhnlmekmhaaGreatDoorMg16
/- A parser in memory, and what its methods leave. -/
section
namespace Go.Proofs.YtlibdhnlmekmhaaGreatDoor.Rd
set_option maxRecDepth 100000
open Go.RowKit
open Go.Proofs.YtlibdhnlmekmhaaGreatDoor.Own Go.Proofs.YtlibdhnlmekmhaaGreatDoor.Hp Go.Proofs.YtlibdhnlmekmhaaGreatDoor.Rep Go.Proofs.YtlibdhnlmekmhaaGreatDoor.Get Go.Proofs.YtlibdhnlmekmhaaGreatDoor.Add Go.Proofs.YtlibdhnlmekmhaaGreatDoor.Make Go.Proofs.YtlibdhnlmekmhaaGreatDoor.Strs Go.Proofs.YtlibdhnlmekmhaaGreatDoor.Clone Go.Proofs.YtlibdhnlmekmhaaGreatDoor.Utf
open Go.Proofs.YtlibdhnlmekmhaaGreatDoor.Nt hiding Wd

/-- The library's variables that the reader reads. -/
def ErrVar (w : World) : Prop := ∃ ev, w.cell? ⟨4, 0, none⟩ = some ev ∧ (ev = .nilIface ∨ ∃ te pe, ev = .iface te pe)
theorem ErrVar.below {w w' : World} (h : ErrVar w) (hb : Below w.heap.size w w') : ErrVar w' := by
  obtain ⟨ev, h1, h2⟩ := h
  exact ⟨ev, (hb.cell (World.block_lt_of_cell? _ _ h1)).trans h1, h2⟩
structure Sys (w : World) : Prop where
  tabs : Tabs w
  err : ErrVar w
theorem Sys.below {w w' : World} (h : Sys w) (hb : Below w.heap.size w w') : Sys w' := ⟨h.tabs.below hb, h.err.below hb⟩

/-- What of a parser does not change: the world in which the statement began, the blocks, the characters. -/
structure Fx where
  w0 : World
  base : Nat
  hp : Nat
  lim : Nat
  tp : Nat
  p : Nat
  g : Nat
  mb : Nat
  cap : Nat
  l : List Int
structure Fx.Ok (X : Fx) : Prop where
  sys : Sys X.w0
  lowb : X.w0.heap.size ≤ X.base
  lowp : X.w0.heap.size ≤ X.p
  short : X.l.length ≤ 1000000
  chars : ∀ c ∈ X.l, isC c
  pg : X.g ≠ X.p
  pm : X.mb ≠ X.p

abbrev pptr (p : Nat) : Value := .pointer (some ⟨p, 0, none⟩)
abbrev fnv (f : FuncId) : Value := .func (.func f) #[] #[]
/-- The methods that read forms, by the first characters. -/
def rdF (x : Int) : Option Value :=
  if x = 40 then some (fnv 121)
  else if x = 41 ∨ x = 93 then some (fnv 122)
  else if x = 91 then some (fnv 123)
  else if x = 39 then some (fnv 124)
  else if x = 96 then some (fnv 125)
  else if x = 44 then some (fnv 126)
  else if x = 35 then some (fnv 127)
  else if x = 34 then some (fnv 128)
  else if x = 63 then some (fnv 129)
  else none

/-- A parser at position a, with op brackets open, in front of what s tells. -/
structure PS (X : Fx) (w : World) (a op : Nat) (s : St) (F : Nat → Prop) : Prop where
  below : Below X.w0.heap.size X.w0 w
  ht : HT w X.base X.hp X.lim X.tp s.ob s.tb F
  blk : Blk w X.p #[ptr X.hp, tptr X.tp, .slice (some ⟨X.g, 0, none⟩) X.l.length X.cap, .int .i64 (a : Int), .int .i64 (op : Int), .map (some X.mb)] 91
  at_ : X.l.drop a = s.rest
  le : a ≤ X.l.length
  row : Row w X.g (X.l.map (Value.int .i64))
  map : Mp.MapOf w X.mb rdF
  fp : ¬ F X.p
  fg : ¬ F X.g
  fm : ¬ F X.mb
  opl : op ≤ 200
/-- What a method leaves. -/
def PAfter (X : Fx) (w w' : World) (F F' : Nat → Prop) : Prop := HAfter w w' (fun b => F b ∨ b = X.p) F F'
theorem PAfter.refl (X : Fx) (w : World) (F : Nat → Prop) : PAfter X w w F F := HAfter.refl _ _ _
theorem PAfter.of_below {X : Fx} {w w' : World} {F : Nat → Prop} (h : Below w.heap.size w w') : PAfter X w w' F F := HAfter.below h
theorem PAfter.trans {X : Fx} {w w1 w2 : World} {F F1 F2 : Nat → Prop} (h : PAfter X w w1 F F1) (k : PAfter X w1 w2 F1 F2) : PAfter X w w2 F F2 :=
  HAfter.trans h k fun b hb => by
    rcases hb with hb | hb
    · rcases h.grow b hb with e | e
      · exact .inl (.inl e)
      · exact .inr e
    · exact .inl (.inr hb)
theorem PS.n {X : Fx} {w : World} {a op : Nat} {s : St} {F : Nat → Prop} (h : PS X w a op s F) : a + s.rest.length = X.l.length := by
  rw [← h.at_, List.length_drop]
  have := h.le
  omega
theorem PS.pos {X : Fx} {w : World} {a op : Nat} {s : St} {F : Nat → Prop} (h : PS X w a op s F) : X.l.length - s.rest.length = a := by
  have := h.n
  omega
theorem PS.sys {X : Fx} {w : World} {a op : Nat} {s : St} {F : Nat → Prop} (h : PS X w a op s F) (hX : X.Ok) : Sys w := hX.sys.below h.below
theorem PS.high {X : Fx} {w : World} {a op : Nat} {s : St} {F : Nat → Prop} (h : PS X w a op s F) (hX : X.Ok) : ∀ b, (F b ∨ b = X.p) → X.w0.heap.size ≤ b := fun b hb => by
  rcases hb with hb | hb
  · exact Nat.le_trans hX.lowb (h.ht.lt hb).1
  · rw [hb]; exact hX.lowp
/-- Where nothing of the parser's is written. -/
theorem PS.keeps {X : Fx} {w w' : World} {a op : Nat} {s : St} {F G : Nat → Prop} (h : PS X w a op s F) (hk : Keeps G w w') (hG : ∀ b, G b → ¬ F b ∧ b ≠ X.p ∧ b ≠ X.g ∧ b ≠ X.mb ∧ X.w0.heap.size ≤ b) : PS X w' a op s F where
  below := h.below.trans (hk.below h.below.size fun b hb => (hG b hb).2.2.2.2)
  ht := h.ht.keeps hk fun b hb => (hG b hb).1
  blk := h.blk.keeps hk fun hb => (hG _ hb).2.1 rfl
  at_ := h.at_
  le := h.le
  row := h.row.keeps hk fun hb => (hG _ hb).2.2.1 rfl
  map := h.map.keeps hk fun hb => (hG _ hb).2.2.2.1 rfl
  fp := h.fp
  fg := h.fg
  fm := h.fm
  opl := h.opl
theorem PS.later {X : Fx} {w w' : World} {a op : Nat} {s : St} {F : Nat → Prop} (h : PS X w a op s F) (hb : Below w.heap.size w w') : PS X w' a op s F :=
  h.keeps (G := fun _ => False) (.of_below hb) fun _ hf => hf.elim
theorem PS.alloc {X : Fx} {w : World} {a op : Nat} {s : St} {F : Nat → Prop} (h : PS X w a op s F) (o : Obj) : PS X (w.alloc o) a op s F := h.later ((Below.refl _ _).alloc (Nat.le_refl _) o)
/-- A block of the caller's own that is written, laid since. -/
theorem PS.write {X : Fx} {w w' : World} {a op B : Nat} {s : St} {F : Nat → Prop} (h : PS X w a op s F) (hk : Keeps (fun b => b = B) w w') (h1 : ¬ F B) (h2 : B ≠ X.p) (h3 : B ≠ X.g) (h4 : B ≠ X.mb) (h5 : X.w0.heap.size ≤ B) : PS X w' a op s F :=
  h.keeps hk fun b hb => by subst hb; exact ⟨h1, h2, h3, h4, h5⟩
/-- The parser's own cells. -/
theorem Blk.six {w : World} {g : Nat} {a b c d e f : Value} {t : TypeId} (h : Blk w g #[a, b, c, d, e, f] t) : w.cell? ⟨g, 0, none⟩ = some a ∧ w.cell? ⟨g, 1, none⟩ = some b ∧ w.cell? ⟨g, 2, none⟩ = some c ∧ w.cell? ⟨g, 3, none⟩ = some d ∧ w.cell? ⟨g, 4, none⟩ = some e ∧ w.cell? ⟨g, 5, none⟩ = some f :=
  ⟨h.cell 0 _ rfl, h.cell 1 _ rfl, h.cell 2 _ rfl, h.cell 3 _ rfl, h.cell 4 _ rfl, h.cell 5 _ rfl⟩
theorem keeps_set (w : World) (p k : Nat) (v : Value) : Keeps (fun b => b = p) w (w.setCell ⟨p, k, none⟩ v) := (Keeps.refl (fun b => b = p) w).setCell ⟨p, k, none⟩ v fun _ => rfl
theorem PS.turn {X : Fx} {w w' : World} {a a' op op' : Nat} {s s' : St} {F : Nat → Prop} (h : PS X w a op s F) (hX : X.Ok) (hk : Keeps (fun b => b = X.p) w w')
    (hB : Blk w' X.p #[ptr X.hp, tptr X.tp, .slice (some ⟨X.g, 0, none⟩) X.l.length X.cap, .int .i64 (a' : Int), .int .i64 (op' : Int), .map (some X.mb)] 91) (hob : s'.ob = s.ob) (htb : s'.tb = s.tb) (hat : X.l.drop a' = s'.rest) (hle : a' ≤ X.l.length) (hop : op' ≤ 200) :
    PS X w' a' op' s' F ∧ PAfter X w w' F F := by
  refine ⟨{
    below := h.below.trans (hk.below h.below.size fun b hb => by rw [hb]; exact hX.lowp)
    ht := by rw [hob, htb]; exact h.ht.keeps hk fun b hb hf => by rw [hb] at hf; exact h.fp hf
    blk := hB
    at_ := hat
    le := hle
    row := h.row.keeps hk fun e => hX.pg e
    map := h.map.keeps hk fun e => hX.pm e
    fp := h.fp
    fg := h.fg
    fm := h.fm
    opl := hop }, ⟨hk.mono fun b _ e => .inr e, fun b hb => .inl hb⟩⟩
/-- The parser moves. -/
theorem PS.move {X : Fx} {w : World} {a op : Nat} {s : St} {F : Nat → Prop} (h : PS X w a op s F) (hX : X.Ok) (a' : Nat) (hle : a' ≤ X.l.length) (v : Value) (hv : v = .int .i64 (a' : Int)) :
    PS X (w.setCell ⟨X.p, 3, none⟩ v) a' op ⟨X.l.drop a', s.ob, s.tb⟩ F ∧ PAfter X w (w.setCell ⟨X.p, 3, none⟩ v) F F := by
  subst hv
  exact h.turn hX (keeps_set _ _ _ _) (by simpa using h.blk.set 3 (.int .i64 (a' : Int))) rfl rfl rfl hle h.opl
/-- A bracket is opened or shut. -/
theorem PS.nest {X : Fx} {w : World} {a op : Nat} {s : St} {F : Nat → Prop} (h : PS X w a op s F) (hX : X.Ok) (op' : Nat) (hle : op' ≤ 200) (v : Value) (hv : v = .int .i64 (op' : Int)) :
    PS X (w.setCell ⟨X.p, 4, none⟩ v) a op' s F ∧ PAfter X w (w.setCell ⟨X.p, 4, none⟩ v) F F := by
  subst hv
  exact h.turn hX (keeps_set _ _ _ _) (by simpa using h.blk.set 4 (.int .i64 (op' : Int))) rfl rfl h.at_ h.le hle
/-- Behind a change of the heap or the table. -/
theorem PS.ofHT {X : Fx} {w w' : World} {a op : Nat} {s : St} {ob : Obs} {tb : Tb} {F : Nat → Prop} (h : PS X w a op s F) (hX : X.Ok) (hok : HTOk w w' X.base X.hp X.lim X.tp ob tb F) : ∃ F', PS X w' a op ⟨s.rest, ob, tb⟩ F' ∧ PAfter X w w' F F' := by
  obtain ⟨F', hH, hA⟩ := hok
  have hn : ∀ b, ¬ F b → b < w.heap.size → ¬ F' b := fun b hb hlt hf => by
    rcases hA.grow b hf with e | e
    · exact hb e
    · omega
  refine ⟨F', {
    below := h.below.trans (hA.keeps.below h.below.size fun b hb => h.high hX b (.inl hb))
    ht := hH
    blk := h.blk.keeps hA.keeps h.fp
    at_ := h.at_
    le := h.le
    row := h.row.keeps hA.keeps h.fg
    map := h.map.keeps hA.keeps h.fm
    fp := hn _ h.fp h.blk.lt
    fg := hn _ h.fg h.row.lt
    fm := hn _ h.fm h.map.lt
    opl := h.opl }, hA.mono fun b hb => .inl hb⟩
/-- A block of the caller's own that a method leaves alone. -/
theorem PAfter.blk {X : Fx} {w w' : World} {F F' : Nat → Prop} {b : Nat} {cs : Array Value} {t : TypeId} (h : PAfter X w w' F F') (hB : Blk w b cs t) (h1 : ¬ F b) (h2 : b ≠ X.p) : Blk w' b cs t ∧ ¬ F' b :=
  ⟨hB.keeps h.keeps fun e => e.elim h1 h2, fun e => by
    rcases h.grow b e with e | e
    · exact h1 e
    · have := hB.lt; omega⟩
theorem PAfter.old {X : Fx} {w w' : World} {F F' : Nat → Prop} {b : Nat} (h : PAfter X w w' F F') (hlt : b < w.heap.size) (h1 : ¬ F b) : ¬ F' b := fun e => by
  rcases h.grow b e with e | e
  · exact h1 e
  · omega

/-- A panic with a fault. -/
def faultE (c : Int) (k : Nat) : Ending := .panicked [{ v := .iface 31 (.agg #[.int .i64 c, .int .i64 (k : Int)]), recovered := false }]
/-- How a method that reads ends: as the plain reader does. -/
def Out {α : Type} (X : Fx) (w : World) (op : Nat) (F : Nat → Prop) (ret : α → Ending → World → (Nat → Prop) → Prop) (R : Res α) (e : Ending) (w' : World) : Prop :=
  match R with
  | .ok x s' => ∃ a' F', ret x e w' F' ∧ PS X w' a' op s' F' ∧ PAfter X w w' F F'
  | .err c m ob tb => e = faultE c (X.l.length - m) ∧ ∃ F', HT w' X.base X.hp X.lim X.tp ob tb F' ∧ PAfter X w w' F F'
def retW (x : Wd) (e : Ending) (_ : World) (_ : Nat → Prop) : Prop := e = .returned (wd x)
end Go.Proofs.YtlibdhnlmekmhaaGreatDoor.Rd
end

/- What the cards of the reader's statements share: the variables as the row lists them, and a world that holds them. -/
section
namespace Go.Proofs.YtlibdhnlmekmhaaGreatDoor.Frame
open Go.ChangeShapes Go.WideShapes Go.ChangeAt Go.RowKit Go.Lib Go.Shelf
open Go.Proofs.YtlibdhnlmekmhaaGreatDoor.Strs Go.Proofs.YtlibdhnlmekmhaaGreatDoor.Clone Go.Proofs.YtlibdhnlmekmhaaGreatDoor.Rd

theorem own : ownKnob Tryz.prog.godebug = none := by kernel_rfl

theorem accept_eq : (Rows.laid_unicode_utf8_acceptRanges : DataW Unit) = acceptData := by kernel_rfl

/-- An interface value that reads as data. -/
theorem iface_cells {P : Program} {w : World} {fuel : Nat} {t : TypeId} {ms : Array (String × TypeId)} {cs : List Value} {d : DataW Unit} {p : List MemPlace} (ht : P.underlying t = some (.interface ms)) (h : DataW.trod (fun _ => ()) P w 0 (fun _ => true) false fuel t cs = some (d, p)) :
    ∃ ev, cs = [ev] ∧ (ev = .nilIface ∨ ∃ te pe, ev = .iface te pe) := by
  cases fuel with
  | zero => simp [DataW.trod] at h
  | succ n =>
    unfold DataW.trod at h
    rw [ht] at h
    match cs with
    | [] => simp at h
    | [ev] => cases ev <;> first | exact ⟨_, rfl, .inl rfl⟩ | exact ⟨_, rfl, .inr ⟨_, _, rfl⟩⟩ | (simp at h)
    | _ :: _ :: _ => simp at h
/-- What a row's list gives. -/
theorem sys {W : World} {l : List (String × DataW Unit)} (hl : l = Rows.readNamesRow.laid) (h : laidMet Tryz.prog l W) : Rd.Sys W := by
  subst hl
  have h4 : VarReads Tryz.prog W _ Rows.laid_unicode_utf8_acceptRanges := Lib.laidMet.reads h (.tail _ (.tail _ (.tail _ (.head _))))
  have h5 : VarReads Tryz.prog W _ Rows.laid_strconv_ErrRange := Lib.laidMet.reads h (.tail _ (.tail _ (.tail _ (.tail _ (.head _)))))
  have h3 : VarReads Tryz.prog W _ Rows.laid_unicode_utf8_first := Lib.laidMet.reads h (.tail _ (.tail _ (.tail _ (.tail _ (.tail _ (.tail _ (.head _)))))))
  rw [accept_eq] at h4
  rw [show Rows.laid_unicode_utf8_first = firstData from Pinned.utf8First_eq] at h3
  refine ⟨utf8Tabs_of_readsT (U8Types.of196 Tryz.laysValid) ⟨by kernel_rfl, by kernel_rfl, by kernel_rfl, by kernel_rfl, by kernel_rfl, by kernel_rfl, by kernel_rfl⟩ h3 h4, ?_⟩
  obtain ⟨g, t, cs, fuel, p, hg, ht, hv, hr⟩ := h5
  have hg' : g = 4 := Option.some.inj (hg.symm.trans (by kernel_rfl))
  subst hg'
  have ht' : t = 173 := Option.some.inj (ht.symm.trans (by kernel_rfl))
  subst ht'
  obtain ⟨ev, hcs, hev⟩ := iface_cells Tryz.underlying173 hr
  refine ⟨ev, ?_, hev⟩
  unfold World.var? at hv
  rw [hg] at hv
  simp only [Option.bind_some] at hv
  cases hh : W.heap[4]? with
  | none => rw [hh] at hv; cases hv
  | some o =>
    rw [hh] at hv
    cases o with
    | cells cs' ty fr =>
      simp only [Option.some.injEq] at hv
      subst hv
      have hc0 : cs'[0]? = some ev := by
        rw [← Array.getElem?_toList, hcs]
        rfl
      simp [World.cell?, hh, hc0]
    | _ => cases hv

/-- A world for the witness: the settled one, the variables holding what their text lays. -/
noncomputable def laidWorld (os : Os) : World :=
  let w0 := World.holding Tryz.prog os ⟨#[], #[], []⟩
  let put (h : Array Obj) (g : Nat) (cs : Array Value) : Array Obj := h.modify g fun
    | .cells _ t frozen => .cells cs t frozen
    | o => o
  let lits (k : IntKind) (d : DataW Unit) : Array Value := match d with
    | .agg l => (l.map fun | .lit (.int _ z) => Value.int k z | _ => Value.int k 0).toArray
    | _ => #[]
  let txt (d : DataW Unit) : Value := match d with
    | .iface _ (.ptr (.agg [.lit (.string s)])) => .string ⟨s.toArray⟩
    | _ => .nilIface
  let h1 := put w0.heap 1 (Lib.firstTab.map fun z => Value.int .u8 z).toArray
  let h2 := put h1 2 ((List.range 16).flatMap fun i => [Value.int .u8 (Lib.accLo i), Value.int .u8 (Lib.accHi i)]).toArray
  let h3 := put h2 6 (lits .u8 Rows.laid_math_bits_deBruijn32tab)
  let h4 := put h3 7 (lits .u8 Rows.laid_math_bits_deBruijn64tab)
  let h5 := put h4 5 (lits .u64 Rows.laid_internal_strconv_uint64pow10)
  let n := h5.size
  let h6 := put h5 4 #[.iface 256 (.pointer (some ⟨n, 0, none⟩))]
  let h7 := put h6 3 #[.iface 256 (.pointer (some ⟨n + 1, 0, none⟩))]
  let h8 := (h7.push (.cells #[txt Rows.laid_strconv_ErrRange] 258)).push (.cells #[txt Rows.laid_strconv_ErrSyntax] 258)
  { w0 with heap := h8 }
theorem laid_met (os : Os) (args : Array Value) {l : List (String × DataW Unit)} (hl : l = Rows.readNamesRow.laid) : laidMet Tryz.prog l ((laidWorld os).forCall (fun _ _ => 0) ⟨#[], args, []⟩).memory := by
  subst hl
  exact (LaidIn.of_run (l := Rows.readNamesRow.laid) (List.range 64) 8 (by kernel_rfl) (by kernel_rfl) (by kernel_rfl) (by kernel_rfl)).met

theorem laidOut : laidOutB Tryz.prog = true := by kernel_rfl
end Go.Proofs.YtlibdhnlmekmhaaGreatDoor.Frame
end

/- The contracts of the parser's small methods: look, next, ends, take, skip, open. -/
section
namespace Go.Proofs.YtlibdhnlmekmhaaGreatDoor.Rd
set_option maxRecDepth 100000
open Go.RowKit
open Go.Proofs.YtlibdhnlmekmhaaGreatDoor.Own Go.Proofs.YtlibdhnlmekmhaaGreatDoor.Hp Go.Proofs.YtlibdhnlmekmhaaGreatDoor.Rep Go.Proofs.YtlibdhnlmekmhaaGreatDoor.Get Go.Proofs.YtlibdhnlmekmhaaGreatDoor.Utf

theorem blank_any (c : Int) (w : World) : Calls Tryz.prog 21 #[.int .i64 c] w fun e w' => e = .returned (.bool (blankB c)) ∧ w = w' := by
  go_enter Tryz.func21, Tryz.ntmps21
  go_wp2
  all_goals (go_ret; exact ⟨by simp_all [blankB], rfl⟩)
theorem delim_any (c : Int) (w : World) : Calls Tryz.prog 22 #[.int .i64 c] w fun e w' => e = .returned (.bool (delimB c)) ∧ w = w' := by
  have HB := Lib.hid (blank_any c)
  obtain ⟨B, hB⟩ : ∃ B, blankB c = B := ⟨_, rfl⟩
  rw [hB] at HB
  unfold delimB
  rw [hB]
  clear hB
  go_enter Tryz.func22, Tryz.ntmps22
  go_wp2_with (go_at_call 21; refine (HB.out _).mono ?_; rintro e w' ⟨rfl, rfl⟩)
  all_goals (go_ret; exact ⟨by simp_all, rfl⟩)

/-- The character at the head, -1 at the end. -/
def nx : List Int → Int
  | [] => -1
  | c :: _ => c
theorem nx_drop (l : List Int) (i : Nat) : nx (l.drop i) = if h : i < l.length then l[i] else -1 := by
  split
  · rename_i h
    rw [List.drop_eq_getElem_cons h]
    rfl
  · rename_i h
    rw [List.drop_of_length_le (by omega)]
    rfl
theorem look_core (p g n cap i : Nat) (v : Int) (w : World) (c2 : w.cell? ⟨p, 2, none⟩ = some (.slice (some ⟨g, 0, none⟩) n cap)) (hn : n ≤ 1000000) (hi : i ≤ 2000000) (h : i < n → w.cell? ⟨g, i, none⟩ = some (.int .i64 v)) (hv : ¬ i < n → v = -1) :
    Calls Tryz.prog 131 #[pptr p, .int .i64 (i : Int)] w fun e w' => e = .returned (.int .i64 v) ∧ w = w' := by
  by_cases hlt : i < n
  · have hz : ¬ (n : Int) ≤ (i : Int) := by omega
    have c := h hlt
    clear h hv
    go_enter Tryz.func131, Tryz.ntmps131
    go_wp2
    go_ret
    exact ⟨rfl, rfl⟩
  · have hz : (n : Int) ≤ (i : Int) := by omega
    have hv1 := hv hlt
    subst hv1
    clear h hv
    go_enter Tryz.func131, Tryz.ntmps131
    go_wp2
    go_ret
    exact ⟨rfl, rfl⟩
theorem PS.look {X : Fx} {w : World} {a op : Nat} {s : St} {F : Nat → Prop} (h : PS X w a op s F) (hX : X.Ok) (j : Nat) (hj : j ≤ 1000000) (z : Int) (hz : z = (a : Int) + j) :
    Calls Tryz.prog 131 #[pptr X.p, .int .i64 z] w fun e w' => e = .returned (.int .i64 (nx (s.rest.drop j))) ∧ w = w' := by
  obtain ⟨_, _, c2, _, _, _⟩ := Blk.six h.blk
  have e : s.rest.drop j = X.l.drop (a + j) := by rw [← h.at_, List.drop_drop]
  have hle := h.le
  have hs := hX.short
  rw [e, show z = ((a + j : Nat) : Int) by omega]
  refine look_core X.p X.g X.l.length X.cap (a + j) _ w c2 hX.short (by omega) (fun hi => ?_) (fun hi => ?_)
  · refine h.row.cell (a + j) _ ?_
    rw [nx_drop, dif_pos hi, List.getElem?_map, List.getElem?_eq_getElem hi]
    rfl
  · rw [nx_drop, dif_neg hi]
theorem PS.next {X : Fx} {w : World} {a op : Nat} {s : St} {F : Nat → Prop} (h : PS X w a op s F) (hX : X.Ok) :
    Calls Tryz.prog 67 #[pptr X.p] w fun e w' => e = .returned (.int .i64 (nx s.rest)) ∧ w = w' := by
  have HL := Lib.hid (h.look hX 0 (by omega) (a : Int) (by omega))
  rw [List.drop_zero] at HL
  obtain ⟨_, _, _, c3, _, _⟩ := Blk.six h.blk
  generalize nx s.rest = v at *
  clear h
  go_enter Tryz.func67, Tryz.ntmps67
  go_wp2_with (go_at_call 131; refine HL.out.mono ?_; rintro e w' ⟨rfl, rfl⟩)
  go_ret
  exact ⟨rfl, rfl⟩
theorem PS.ends {X : Fx} {w : World} {a op : Nat} {s : St} {F : Nat → Prop} (h : PS X w a op s F) (hX : X.Ok) (j : Nat) (hj : j ≤ 1000000) (z : Int) (hz : z = (a : Int) + j) :
    Calls Tryz.prog 169 #[pptr X.p, .int .i64 z] w fun e w' => e = .returned (.bool (endsB (s.rest.drop j))) ∧ w = w' := by
  have HL := Lib.hid (h.look hX j hj z hz)
  have hmem : ∀ c ∈ s.rest.drop j, 0 ≤ c := fun c hc => by
    have h1 := List.mem_of_mem_drop hc
    rw [← h.at_] at h1
    exact (hX.chars c (List.mem_of_mem_drop h1)).1
  clear h hX
  cases hr : s.rest.drop j with
  | nil =>
    rw [hr] at HL
    have HL2 : Hid (Calls Tryz.prog 131 #[pptr X.p, .int .i64 z] w fun e w' => e = .returned (.int .i64 (-1)) ∧ w = w') := HL
    clear hz HL hmem hr
    go_enter Tryz.func169, Tryz.ntmps169
    go_wp2_with (go_at_call 131; refine HL2.out.mono ?_; rintro e w' ⟨rfl, rfl⟩)
    go_ret
    exact ⟨rfl, rfl⟩
  | cons c r =>
    rw [hr] at HL hmem
    have h0 := hmem c (by simp)
    have hne : (c == -1) = false := by simp; omega
    have HL2 : Hid (Calls Tryz.prog 131 #[pptr X.p, .int .i64 z] w fun e w' => e = .returned (.int .i64 c) ∧ w = w') := HL
    have HD := Lib.hid (delim_any c)
    have e1 : endsB (c :: r) = delimB c := rfl
    rw [e1]
    generalize delimB c = D at *
    clear hz HL hmem hr h0 e1
    go_enter Tryz.func169, Tryz.ntmps169
    go_wp2_with (first
      | (go_at_call 131; refine HL2.out.mono ?_; rintro e w' ⟨rfl, rfl⟩)
      | (go_at_call 22; refine (HD.out _).mono ?_; rintro e w' ⟨rfl, rfl⟩))
    go_ret
    exact ⟨rfl, rfl⟩
/-- take at the end of the input. -/
theorem PS.takeEnd {X : Fx} {w : World} {a op : Nat} {s : St} {F : Nat → Prop} (h : PS X w a op s F) (hX : X.Ok) (hr : s.rest = []) :
    Calls Tryz.prog 171 #[pptr X.p] w fun e w' => e = faultE 5 (X.l.length - 0) ∧ w = w' := by
  have hn := h.n
  rw [hr] at hn
  have HN := h.next hX
  rw [hr] at HN
  have HN2 : Hid (Calls Tryz.prog 67 #[pptr X.p] w fun e w' => e = .returned (.int .i64 (-1)) ∧ w = w') := HN
  obtain ⟨_, _, _, c3, _, _⟩ := Blk.six h.blk
  rw [show X.l.length - 0 = a by simp at hn; omega]
  clear h hn hr HN
  unfold faultE
  go_enter Tryz.func171, Tryz.ntmps171
  go_wp2_with (go_at_call 67; refine HN2.out.mono ?_; rintro e w' ⟨rfl, rfl⟩)
  exact ⟨rfl, rfl, rfl⟩
theorem drop_tail {l r : List Int} {a : Nat} {c : Int} (h : l.drop a = c :: r) : l.drop (a + 1) = r ∧ a + 1 ≤ l.length := by
  constructor
  · rw [← List.tail_drop, h]
    rfl
  · have := congrArg List.length h
    simp at this
    omega
theorem PS.take {X : Fx} {w : World} {a op : Nat} {s : St} {F : Nat → Prop} (h : PS X w a op s F) (hX : X.Ok) {c : Int} {r : List Int} (hr : s.rest = c :: r) :
    Calls Tryz.prog 171 #[pptr X.p] w fun e w' => e = .returned (.int .i64 c) ∧ PS X w' (a + 1) op ⟨r, s.ob, s.tb⟩ F ∧ PAfter X w w' F F := by
  have HN := h.next hX
  rw [hr] at HN
  have HN2 : Hid (Calls Tryz.prog 67 #[pptr X.p] w fun e w' => e = .returned (.int .i64 c) ∧ w = w') := HN
  obtain ⟨_, _, _, c3, _, _⟩ := Blk.six h.blk
  have f3 := h.blk.free 3
  have hat := h.at_
  rw [hr] at hat
  obtain ⟨hd, hle⟩ := drop_tail hat
  have hm := h.move hX (a + 1) hle (.int .i64 ((a : Int) + 1)) (by simp)
  rw [hd] at hm
  have HM := Lib.hid hm
  have h0 : 0 ≤ c := (hX.chars c (List.mem_of_mem_drop (by rw [hat]; simp))).1
  have hne : (c == -1) = false := by simp; omega
  have hs := hX.short
  have hb : (a : Int) + 1 ≤ 1000000 := by omega
  clear h hr HN hat hd hm h0 hX hs hle
  go_enter Tryz.func171, Tryz.ntmps171
  go_wp2_with (go_at_call 67; refine HN2.out.mono ?_; rintro e w' ⟨rfl, rfl⟩)
  go_ret
  exact ⟨rfl, HM.out⟩
end Go.Proofs.YtlibdhnlmekmhaaGreatDoor.Rd
end
