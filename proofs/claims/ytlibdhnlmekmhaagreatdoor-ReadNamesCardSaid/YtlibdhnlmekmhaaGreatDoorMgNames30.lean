/- The contract of form. | The contract of token. -/
import Derived.Test.YtlibdhnlmekmhaaGreatDoorMgNames22
import Derived.Test.YtlibdhnlmekmhaaGreatDoorMgNames25
import Derived.Test.YtlibdhnlmekmhaaGreatDoorMgNames29
/- The contract of form. -/
section
namespace Go.Proofs.YtlibdhnlmekmhaaGreatDoor.Rd
set_option maxRecDepth 100000
open Go.RowKit Go.Maps
open Go.Proofs.YtlibdhnlmekmhaaGreatDoor.Own Go.Proofs.YtlibdhnlmekmhaaGreatDoor.Hp Go.Proofs.YtlibdhnlmekmhaaGreatDoor.Rep Go.Proofs.YtlibdhnlmekmhaaGreatDoor.Get Go.Proofs.YtlibdhnlmekmhaaGreatDoor.Add Go.Proofs.YtlibdhnlmekmhaaGreatDoor.Make Go.Proofs.YtlibdhnlmekmhaaGreatDoor.Utf Go.Proofs.YtlibdhnlmekmhaaGreatDoor.Strs
open Go.Proofs.YtlibdhnlmekmhaaGreatDoor.Nt hiding Wd

/-- 'v, ok := m[x]'. -/
theorem map_ok {w : World} {b : Nat} {F : Int → Option Value} (h : Mp.MapOf w b F) {x : Int} (hx : Mp.Wf x) :
    (Instr.lookup 89 (.map (some b)) (.int .i64 x) true).run Tryz.prog w = .ok (.tuple #[(F x).getD .nilFunc, .bool (F x).isSome]) w := by
  obtain ⟨D, ks, ho, _, _, _, h1, h2, _⟩ := h
  obtain ⟨v, ps, hrun, hv⟩ := ho.look_ok Mp.law Mp.mapT (Mp.zeroT w) (zd := .held .nilFunc) (zp := []) rfl hx.key
  rw [h2 x .nilFunc] at hv
  simp only [Mp.heldR, Option.some.injEq, Prod.mk.injEq, DataW.held.injEq] at hv
  rw [hrun, hv.1, h1]

theorem form_end {X : Fx} {w : World} {a op : Nat} {s : St} {F : Nat → Prop} (h : PS X w a op s F) (hX : X.Ok) (hsk : skipF false s.rest = []) :
    Calls Tryz.prog 68 #[pptr X.p] w (Out X w op F retW (.err 5 0 s.ob s.tb)) := by
  have h1 := h.alloc wbox0
  have HS := Lib.hid (h1.skip hX)
  have HX := Lib.hid hX
  have HSk := Lib.hid hsk
  have HA1 : Hid (PAfter X w (w.alloc wbox0) F F) := .of_below (bel_box _ _)
  clear h h1 hX hsk
  go_enter Tryz.func68, Tryz.ntmps68
  go_wp2_with fail
  refine HS.out.mono ?_
  rintro e w3 ⟨rfl, a3, q, hP, hA, rfl⟩
  rw [HSk.out] at hP
  have HNx := Lib.hid (hP.next HX.out)
  have hpos := hP.pos
  obtain ⟨_, _, _, c3, _, _⟩ := Blk.six hP.blk
  have HP := Lib.hid hP
  have HA := Lib.hid (HA1.out.trans hA)
  have HPo := Lib.hid hpos
  dsimp only [nx] at HNx
  clear hP hA hpos
  go_wp2_with (first
    | (go_at_call 67; refine HNx.out.mono ?_; rintro e w' ⟨rfl, rfl⟩))
  refine ⟨rfl, ?_, F, HP.out.ht, HA.out⟩
  have := HPo.out
  simp only [List.length_nil] at this
  rw [this]
  rfl
theorem form_token {X : Fx} {w : World} {a op : Nat} {s : St} {F : Nat → Prop} (h : PS X w a op s F) (hX : X.Ok) {c : Int} {r : List Int} (hsk : skipF false s.rest = c :: r) (hfn : rdF c = none) {Q : Res Wd}
    (hH : ∀ W a1, PS X W a1 op ⟨c :: r, s.ob, s.tb⟩ F → Calls Tryz.prog 132 #[pptr X.p] W (Out X W op F retW Q)) :
    Calls Tryz.prog 68 #[pptr X.p] w (Out X w op F retW Q) := by
  have h1 := h.alloc wbox0
  have HS := Lib.hid (h1.skip hX)
  have HX := Lib.hid hX
  have HSk := Lib.hid hsk
  have HA1 : Hid (PAfter X w (w.alloc wbox0) F F) := .of_below (bel_box _ _)
  have hM := h.mine (Nat.le_refl _)
  obtain ⟨b, hb⟩ : ∃ b, w.heap.size = b := ⟨_, rfl⟩
  have HB1 : Hid (Blk (w.alloc wbox0) b #[.int .i64 0, .int .i64 0] 28) := by
    show Blk _ _ _ _
    rw [← hb]; exact Blk.new w _ _
  rw [hb] at hM
  have HM := Lib.hid hM
  have HR := Lib.hid hb
  have HH := Lib.hid hH
  have HFn := Lib.hid hfn
  clear h h1 hX hsk hM hb hH hfn
  go_enter Tryz.func68, Tryz.ntmps68
  go_wp2_with fail
  rw [HR.out]
  refine HS.out.mono ?_
  rintro e w3 ⟨rfl, a3, q, hP, hA, rfl⟩
  rw [HSk.out] at hP
  have HNx := Lib.hid (hP.next HX.out)
  have hcc : isC c := HX.out.chars c (List.mem_of_mem_drop (by rw [hP.at_]; simp))
  have hlk := map_ok hP.map (x := c) ⟨by have := hcc.1; omega, by have := hcc.2.1; omega⟩
  rw [HFn.out] at hlk
  simp only [Option.getD_none, Option.isSome_none] at hlk
  have n1 : (c == -1) = false := by have := hcc.1; simp; omega
  obtain ⟨_, _, _, _, _, c5⟩ := Blk.six hP.blk
  have HT := Lib.hid (HH.out _ _ hP)
  have HA := Lib.hid (HA1.out.trans hA)
  have HM3 := Lib.hid (HM.out.later hA HB1.out.lt)
  have HB3 := Lib.hid (hA.blk HB1.out HM.out.f HM.out.p).1
  dsimp only [nx] at HNx
  clear hP hA hcc
  go_wp2_with (first
    | (go_at_call 67; refine HNx.out.mono ?_; rintro e w' ⟨rfl, rfl⟩))
  refine HT.out.mono ?_
  intro e w4 ho
  rcases ho.tail HA.out HM3.out (Nat.le_of_eq HR.out) HB3.out with ⟨x, rfl, hB4, hO⟩ | ⟨cc, kk, rfl, hO⟩
  · obtain ⟨b0, b1, e0, e1⟩ := hB4.two
    have HO := Lib.hid hO
    clear hO hB4 ho hlk
    go_wp2_with fail
    exact bodyPost_ret (v := wd x) (by simp [results, Tryz.results68, go_sem, b0, b1]) rfl HO.out
  · have HO := Lib.hid hO
    clear hO ho hlk
    go_wp2_with fail
    exact ⟨rfl, HO.out⟩
theorem form_fn {X : Fx} {w : World} {a op : Nat} {s : St} {F : Nat → Prop} (h : PS X w a op s F) (hX : X.Ok) {c : Int} {r : List Int} (hsk : skipF false s.rest = c :: r) {fn : FuncId} (hfn : rdF c = some (fnv fn)) (hen : ∀ args w, (callFunc fn args).run Tryz.prog w = .ok (.enter fn args) w) {Q : Res Wd}
    (hH : ∀ W a1, PS X W a1 op ⟨c :: r, s.ob, s.tb⟩ F → Calls Tryz.prog fn #[pptr X.p] W (Out X W op F retW Q)) :
    Calls Tryz.prog 68 #[pptr X.p] w (Out X w op F retW Q) := by
  have h1 := h.alloc wbox0
  have HS := Lib.hid (h1.skip hX)
  have HX := Lib.hid hX
  have HSk := Lib.hid hsk
  have HA1 : Hid (PAfter X w (w.alloc wbox0) F F) := .of_below (bel_box _ _)
  have hM := h.mine (Nat.le_refl _)
  obtain ⟨b, hb⟩ : ∃ b, w.heap.size = b := ⟨_, rfl⟩
  have HB1 : Hid (Blk (w.alloc wbox0) b #[.int .i64 0, .int .i64 0] 28) := by
    show Blk _ _ _ _
    rw [← hb]; exact Blk.new w _ _
  rw [hb] at hM
  have HM := Lib.hid hM
  have HR := Lib.hid hb
  have HH := Lib.hid hH
  have HFn := Lib.hid hfn
  clear h h1 hX hsk hM hb hH hfn
  go_enter Tryz.func68, Tryz.ntmps68
  go_wp2_with fail
  rw [HR.out]
  refine HS.out.mono ?_
  rintro e w3 ⟨rfl, a3, q, hP, hA, rfl⟩
  rw [HSk.out] at hP
  have HNx := Lib.hid (hP.next HX.out)
  have hcc : isC c := HX.out.chars c (List.mem_of_mem_drop (by rw [hP.at_]; simp))
  have hlk := map_ok hP.map (x := c) ⟨by have := hcc.1; omega, by have := hcc.2.1; omega⟩
  rw [HFn.out] at hlk
  simp only [Option.getD_some, Option.isSome_some] at hlk
  have n1 : (c == -1) = false := by have := hcc.1; simp; omega
  obtain ⟨_, _, _, _, _, c5⟩ := Blk.six hP.blk
  have HT := Lib.hid (HH.out _ _ hP)
  have HA := Lib.hid (HA1.out.trans hA)
  have HM3 := Lib.hid (HM.out.later hA HB1.out.lt)
  have HB3 := Lib.hid (hA.blk HB1.out HM.out.f HM.out.p).1
  dsimp only [nx] at HNx
  clear hP hA hcc
  go_wp2_with (first
    | (go_at_call 67; refine HNx.out.mono ?_; rintro e w' ⟨rfl, rfl⟩))
  refine HT.out.mono ?_
  intro e w4 ho
  rcases ho.tail HA.out HM3.out (Nat.le_of_eq HR.out) HB3.out with ⟨x, rfl, hB4, hO⟩ | ⟨cc, kk, rfl, hO⟩
  · obtain ⟨b0, b1, e0, e1⟩ := hB4.two
    have HO := Lib.hid hO
    clear hO hB4 ho hlk
    go_wp2_with fail
    exact bodyPost_ret (v := wd x) (by simp [results, Tryz.results68, go_sem, b0, b1]) rfl HO.out
  · have HO := Lib.hid hO
    clear hO ho hlk
    go_wp2_with fail
    exact ⟨rfl, HO.out⟩
end Go.Proofs.YtlibdhnlmekmhaaGreatDoor.Rd
end

/- The contract of token. -/
section
namespace Go.Proofs.YtlibdhnlmekmhaaGreatDoor.Rd
set_option maxRecDepth 100000
open Go.RowKit Go.Lib
open Go.Proofs.YtlibdhnlmekmhaaGreatDoor.Own Go.Proofs.YtlibdhnlmekmhaaGreatDoor.Hp Go.Proofs.YtlibdhnlmekmhaaGreatDoor.Rep Go.Proofs.YtlibdhnlmekmhaaGreatDoor.Get Go.Proofs.YtlibdhnlmekmhaaGreatDoor.Utf Go.Proofs.YtlibdhnlmekmhaaGreatDoor.Build

theorem builder_keeps {T e : TypeId} {B b : Nat} {bs : List Value} {w w' : World} {G : Nat → Prop} (h : IsBuilderF T e B b bs w) (hk : Keeps G w w') (hG : ∀ k, G k → k < B) : IsBuilderF T e B b bs w' := by
  have key : ∀ p, BuilderAtF T e B b p bs w → BuilderAtF T e B b p bs w' := by
    rintro p ⟨hB, v, hb, hr, hn⟩
    have hlt : ∀ {k : Nat} {o : Obj}, w.heap[k]? = some o → k < w.heap.size := fun hh => (Array.getElem?_eq_some_iff.1 hh).1
    refine ⟨hB, v, (hk.block b (hlt hb) fun e => by have := hG b e; omega).trans hb, ⟨hr.1, ?_⟩, hn⟩
    rcases hr.2 with h0 | ⟨g, cap, cur, fz, hv, hbg, hg, rest⟩
    · exact .inl h0
    · exact .inr ⟨g, cap, cur, fz, hv, hbg, (hk.block g (hlt hg) fun e => by have := hG g e; omega).trans hg, rest⟩
  rcases h with h | h
  · exact .inl (key _ h)
  · exact .inr (key _ h)
/-- All blocks of a parser's lie below B. -/
structure Low (X : Fx) (F : Nat → Prop) (B : Nat) : Prop where
  f : ∀ b, F b → b < B
  p : X.p < B
  g : X.g < B
  m : X.mb < B
  w : X.w0.heap.size ≤ B
theorem PS.lows {X : Fx} {w : World} {a op : Nat} {s : St} {F : Nat → Prop} (h : PS X w a op s F) : Low X F w.heap.size := ⟨fun _ hb => (h.ht.lt hb).2, h.blk.lt, h.row.lt, h.map.lt, h.below.size⟩
theorem keeps_above {B : Nat} {w w' : World} (h : Below B w w') : Keeps (fun b => B ≤ b) w w' := ⟨h.os, h.tape, h.output, h.size, fun k _ hn => h.block k (by omega)⟩
theorem PS.above {X : Fx} {w w' : World} {a op B : Nat} {s : St} {F : Nat → Prop} (h : PS X w a op s F) (hB : Low X F B) (hb : Below B w w') : PS X w' a op s F :=
  h.keeps (keeps_above hb) fun b hb => ⟨fun e => by have := hB.f b e; omega, by have := hB.p; omega, by have := hB.g; omega, by have := hB.m; omega, Nat.le_trans hB.w hb⟩
theorem PAfter.above {X : Fx} {w w1 w2 : World} {B : Nat} {F F' : Nat → Prop} (h : PAfter X w w1 F F') (hB : w.heap.size ≤ B) (hb : Below B w1 w2) : PAfter X w w2 F F' :=
  ⟨h.keeps.then (keeps_above hb) fun b hlt e => by omega, h.grow⟩
/-- A parser and a builder of strings beside it, laid since w. -/
structure Bd (X : Fx) (w wr : World) (a op B b : Nat) (s : St) (F : Nat → Prop) (acc : List Int) : Prop where
  ps : PS X wr a op s F
  aft : PAfter X w wr F F
  low : Low X F B
  wB : w.heap.size ≤ B
  Bw : B ≤ wr.heap.size
  bd : IsBuilderF 171 5 B b (byteCells (enc acc)) wr
/-- What the parser does alone. -/
theorem Bd.act {X : Fx} {w wr w' : World} {a a' op B b : Nat} {s s' : St} {F : Nat → Prop} {acc : List Int} (h : Bd X w wr a op B b s F acc) (hP : PS X w' a' op s' F) (hA : PAfter X wr w' F F) : Bd X w w' a' op B b s' F acc where
  ps := hP
  aft := h.aft.trans hA
  low := h.low
  wB := h.wB
  Bw := Nat.le_trans h.Bw hA.keeps.size
  bd := builder_keeps h.bd hA.keeps fun k hk => hk.elim (h.low.f k) fun e => e ▸ h.low.p
theorem byteCells_app (a b : List UInt8) : byteCells (a ++ b) = byteCells a ++ byteCells b := by simp [byteCells]
theorem byteCells_len (a : List UInt8) : (byteCells a).length = a.length := by simp [byteCells]
theorem Bd.write {X : Fx} {w wr : World} {a op B b : Nat} {s : St} {F : Nat → Prop} {acc : List Int} (h : Bd X w wr a op B b s F acc) (c : Int) (hc : isC c) (hl : acc.length ≤ 1000000) :
    Calls Tryz.prog 173 #[.pointer (some ⟨b, 0, none⟩), .int .i32 c] wr fun e w' => (∃ v, e = .returned v) ∧ Bd X w w' a op B b s F (acc ++ [c]) := by
  have h4 := enc_len4 acc
  refine (writeRune B b _ c (by have := hc.1; omega) (by have := hc.2.1; omega) wr h.bd (by rw [byteCells_len]; omega) h.Bw).mono ?_
  rintro e w' ⟨he, hb, hbel⟩
  refine ⟨he, h.ps.above h.low hbel, h.aft.above h.wB hbel, h.low, h.wB, Nat.le_trans h.Bw hbel.size, ?_⟩
  have e1 : byteCells (enc acc) ++ runeCells c = byteCells (enc (acc ++ [c])) := by
    rw [enc_append, byteCells_app, ← byteCells_encodeRune]
    simp [enc]
  rw [← e1]
  exact hb
theorem Bd.string {X : Fx} {w wr : World} {a op B b : Nat} {s : St} {F : Nat → Prop} {acc : List Int} (h : Bd X w wr a op B b s F acc) :
    Calls Tryz.prog 175 #[.pointer (some ⟨b, 0, none⟩)] wr fun e w' => e = .returned (.string (strOf (enc acc))) ∧ PS X w' a op s F ∧ PAfter X w w' F F := by
  refine (Tryz.Builder_String_any_f B b (enc acc) wr h.bd h.Bw).mono ?_
  rintro e w' ⟨rfl, _, hb⟩
  exact ⟨rfl, h.ps.above h.low hb, h.aft.above h.wB hb⟩
/-- A builder that is laid. -/
theorem PS.build {X : Fx} {w wr : World} {a op : Nat} {s : St} {F : Nat → Prop} (h : PS X wr a op s F) (hA : PAfter X w wr F F) : Bd X w (wr.alloc (.cells #[.pointer none, .slice none 0 0] 171)) a op wr.heap.size wr.heap.size s F [] where
  ps := h.alloc _
  aft := hA.then_below (bel_box _ _)
  low := h.lows
  wB := hA.keeps.size
  Bw := by simp
  bd := .inl ⟨Nat.le_refl _, .slice none 0 0, heap_alloc_new wr _, ⟨by simp [byteCells, enc], .inl ⟨rfl, rfl⟩⟩, by simp [Value.ownBlock]⟩
end Go.Proofs.YtlibdhnlmekmhaaGreatDoor.Rd
end
