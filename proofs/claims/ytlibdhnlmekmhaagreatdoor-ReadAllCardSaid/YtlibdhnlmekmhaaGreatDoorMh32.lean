/- The contract of token. | The contract of token: the walk. | The contract of ValidRune of this translation, laid at its numbers. | The contracts of digit, control, numbered, textEscape. -/
import Derived.Shelf.Small.Utf8
import Derived.Deep.QuietTactic
import Derived.Laws.RangeString
import Derived.Laws.RangeAny
import Derived.Laws.Runes
import Derived.Test.YtlibdhnlmekmhaaGreatDoorMh01
import Derived.Test.YtlibdhnlmekmhaaGreatDoorMh26
import Derived.Test.YtlibdhnlmekmhaaGreatDoorMh27
/- The contract of token. -/
section
namespace Go.Proofs.YtlibdhnlmekmhaaGreatDoor.Rd
set_option maxRecDepth 100000
open Go.RowKit Go.Lib
open Go.Proofs.YtlibdhnlmekmhaaGreatDoor.Own Go.Proofs.YtlibdhnlmekmhaaGreatDoor.Hp Go.Proofs.YtlibdhnlmekmhaaGreatDoor.Rep Go.Proofs.YtlibdhnlmekmhaaGreatDoor.Get Go.Proofs.YtlibdhnlmekmhaaGreatDoor.Utf Go.Proofs.YtlibdhnlmekmhaaGreatDoor.Build

theorem builder_keeps {T e : TypeId} {B b : Nat} {bs : List Value} {w w' : World} {G : Nat → Prop} (h : IsBuilderF T e B b bs w) (hk : Keeps G w w') (hG : ∀ k, G k → k < B) : IsBuilderF T e B b bs w' := by
  have key : ∀ p, BuilderAtF T e B b p bs w → BuilderAtF T e B b p bs w' := by
    rintro p ⟨hB, v, hb, hr, hn⟩
    have hlt : ∀ {k : Nat} {o : Obj}, w.heap[k]? = some o → k < w.heap.size := fun hh => (Array.getElem?_eq_some_iff.1 hh).1
    refine ⟨hB, v, (hk.block b (hlt hb) fun e => by have := hG b e; omega).trans hb, ⟨hr.1, ?_⟩, hn⟩
    rcases hr.2 with h0 | ⟨g, cap, cur, fz, hv, hbg, hg, rest⟩
    · exact .inl h0
    · exact .inr ⟨g, cap, cur, fz, hv, hbg, (hk.block g (hlt hg) fun e => by have := hG g e; omega).trans hg, rest⟩
  rcases h with h | h
  · exact .inl (key _ h)
  · exact .inr (key _ h)
/-- All blocks of a parser's lie below B. -/
structure Low (X : Fx) (F : Nat → Prop) (B : Nat) : Prop where
  f : ∀ b, F b → b < B
  p : X.p < B
  g : X.g < B
  m : X.mb < B
  w : X.w0.heap.size ≤ B
theorem PS.lows {X : Fx} {w : World} {a op : Nat} {s : St} {F : Nat → Prop} (h : PS X w a op s F) : Low X F w.heap.size := ⟨fun _ hb => (h.ht.lt hb).2, h.blk.lt, h.row.lt, h.map.lt, h.below.size⟩
theorem keeps_above {B : Nat} {w w' : World} (h : Below B w w') : Keeps (fun b => B ≤ b) w w' := ⟨h.os, h.tape, h.output, h.size, fun k _ hn => h.block k (by omega)⟩
theorem PS.above {X : Fx} {w w' : World} {a op B : Nat} {s : St} {F : Nat → Prop} (h : PS X w a op s F) (hB : Low X F B) (hb : Below B w w') : PS X w' a op s F :=
  h.keeps (keeps_above hb) fun b hb => ⟨fun e => by have := hB.f b e; omega, by have := hB.p; omega, by have := hB.g; omega, by have := hB.m; omega, Nat.le_trans hB.w hb⟩
theorem PAfter.above {X : Fx} {w w1 w2 : World} {B : Nat} {F F' : Nat → Prop} (h : PAfter X w w1 F F') (hB : w.heap.size ≤ B) (hb : Below B w1 w2) : PAfter X w w2 F F' :=
  ⟨h.keeps.then (keeps_above hb) fun b hlt e => by omega, h.grow⟩
/-- A parser and a builder of strings beside it, laid since w. -/
structure Bd (X : Fx) (w wr : World) (a op B b : Nat) (s : St) (F : Nat → Prop) (acc : List Int) : Prop where
  ps : PS X wr a op s F
  aft : PAfter X w wr F F
  low : Low X F B
  wB : w.heap.size ≤ B
  Bw : B ≤ wr.heap.size
  bd : IsBuilderF 171 5 B b (byteCells (enc acc)) wr
/-- What the parser does alone. -/
theorem Bd.act {X : Fx} {w wr w' : World} {a a' op B b : Nat} {s s' : St} {F : Nat → Prop} {acc : List Int} (h : Bd X w wr a op B b s F acc) (hP : PS X w' a' op s' F) (hA : PAfter X wr w' F F) : Bd X w w' a' op B b s' F acc where
  ps := hP
  aft := h.aft.trans hA
  low := h.low
  wB := h.wB
  Bw := Nat.le_trans h.Bw hA.keeps.size
  bd := builder_keeps h.bd hA.keeps fun k hk => hk.elim (h.low.f k) fun e => e ▸ h.low.p
theorem byteCells_app (a b : List UInt8) : byteCells (a ++ b) = byteCells a ++ byteCells b := by simp [byteCells]
theorem byteCells_len (a : List UInt8) : (byteCells a).length = a.length := by simp [byteCells]
theorem Bd.write {X : Fx} {w wr : World} {a op B b : Nat} {s : St} {F : Nat → Prop} {acc : List Int} (h : Bd X w wr a op B b s F acc) (c : Int) (hc : isC c) (hl : acc.length ≤ 1000000) :
    Calls Tryz.prog 173 #[.pointer (some ⟨b, 0, none⟩), .int .i32 c] wr fun e w' => (∃ v, e = .returned v) ∧ Bd X w w' a op B b s F (acc ++ [c]) := by
  have h4 := enc_len4 acc
  refine (writeRune B b _ c (by have := hc.1; omega) (by have := hc.2.1; omega) wr h.bd (by rw [byteCells_len]; omega) h.Bw).mono ?_
  rintro e w' ⟨he, hb, hbel⟩
  refine ⟨he, h.ps.above h.low hbel, h.aft.above h.wB hbel, h.low, h.wB, Nat.le_trans h.Bw hbel.size, ?_⟩
  have e1 : byteCells (enc acc) ++ runeCells c = byteCells (enc (acc ++ [c])) := by
    rw [enc_append, byteCells_app, ← byteCells_encodeRune]
    simp [enc]
  rw [← e1]
  exact hb
theorem Bd.string {X : Fx} {w wr : World} {a op B b : Nat} {s : St} {F : Nat → Prop} {acc : List Int} (h : Bd X w wr a op B b s F acc) :
    Calls Tryz.prog 175 #[.pointer (some ⟨b, 0, none⟩)] wr fun e w' => e = .returned (.string (strOf (enc acc))) ∧ PS X w' a op s F ∧ PAfter X w w' F F := by
  refine (Tryz.Builder_String_any_f B b (enc acc) wr h.bd h.Bw).mono ?_
  rintro e w' ⟨rfl, _, hb⟩
  exact ⟨rfl, h.ps.above h.low hb, h.aft.above h.wB hb⟩
/-- A builder that is laid. -/
theorem PS.build {X : Fx} {w wr : World} {a op : Nat} {s : St} {F : Nat → Prop} (h : PS X wr a op s F) (hA : PAfter X w wr F F) : Bd X w (wr.alloc (.cells #[.pointer none, .slice none 0 0] 171)) a op wr.heap.size wr.heap.size s F [] where
  ps := h.alloc _
  aft := hA.then_below (bel_box _ _)
  low := h.lows
  wB := hA.keeps.size
  Bw := by simp
  bd := .inl ⟨Nat.le_refl _, .slice none 0 0, heap_alloc_new wr _, ⟨by simp [byteCells, enc], .inl ⟨rfl, rfl⟩⟩, by simp [Value.ownBlock]⟩
end Go.Proofs.YtlibdhnlmekmhaaGreatDoor.Rd
end

/- The contract of token: the walk. -/
section
namespace Go.Proofs.YtlibdhnlmekmhaaGreatDoor.Rd
set_option maxRecDepth 100000
open Go.RowKit Go.Lib
open Go.Proofs.YtlibdhnlmekmhaaGreatDoor.Own Go.Proofs.YtlibdhnlmekmhaaGreatDoor.Hp Go.Proofs.YtlibdhnlmekmhaaGreatDoor.Rep Go.Proofs.YtlibdhnlmekmhaaGreatDoor.Get Go.Proofs.YtlibdhnlmekmhaaGreatDoor.Utf Go.Proofs.YtlibdhnlmekmhaaGreatDoor.Build

/-- Between two rounds of token. -/
def TokAt (X : Fx) (w1 wr : World) (op b : Nat) (s : St) (F : Nat → Prop) (u : Value) : Prop :=
  ∃ (a' : Nat) (acc : List Int) (pl : Bool) (r : List Int), u = .bool pl ∧ Bd X w1 wr a' op b b ⟨r, s.ob, s.tb⟩ F acc ∧ tokF false acc pl r = tokF false [] true s.rest ∧ (∀ c ∈ acc, isC c) ∧ (acc = [] → r = s.rest) ∧ acc.length + r.length ≤ X.l.length
theorem dot_iff {acc : List Int} (hc : ∀ c ∈ acc, isC c) : strOf (enc acc) = ⟨#[46]⟩ ↔ acc = [46] := by
  constructor
  · intro h
    have h1 : enc acc = [46] := by
      have := congrArg (fun s : ByteArray => s.data.toList) h
      simpa [strOf_list] using this
    have h2 := runes_enc_all acc hc
    rw [h1] at h2
    rw [← h2]
    rfl
  · rintro rfl
    rfl
theorem tok_ends {acc : List Int} {pl : Bool} {r : List Int} (h : endsB r = true) : tokF false acc pl r = some (acc, pl, r) := by
  cases r with
  | nil => rfl
  | cons c r =>
    have hd : delimB c = true := h
    rw [tokF, if_pos hd]
/-- What stands behind the characters of a token. -/
structure TokEnd (X : Fx) (w w1 w2 : World) (a op : Nat) (s : St) (F : Nat → Prop) : Prop where
  ps : PS X w2 a op s F
  aft : PAfter X w w2 F F
  mine : Mine X w F w.heap.size
  box : Blk w2 w.heap.size #[.int .i64 0, .int .i64 0] 28
theorem TokEnd.later {X : Fx} {w w1 w2 w3 : World} {a op : Nat} {s : St} {F : Nat → Prop} (h : TokEnd X w w1 w2 a op s F) (hb : Below w2.heap.size w2 w3) : TokEnd X w w1 w3 a op s F := ⟨h.ps.later hb, h.aft.then_below hb, h.mine, h.box.below hb⟩
theorem TokEnd.fin {X : Fx} {w w1 w2 : World} {a op : Nat} {s : St} {F : Nat → Prop} (h : TokEnd X w w1 w2 a op s F) (x y : Value) : PS X ((w2.setCell ⟨w.heap.size, 0, none⟩ x).setCell ⟨w.heap.size, 1, none⟩ y) a op s F ∧ PAfter X w ((w2.setCell ⟨w.heap.size, 0, none⟩ x).setCell ⟨w.heap.size, 1, none⟩ y) F F :=
  h.ps.put2 h.mine h.aft (Nat.le_refl _) x y

set_option maxHeartbeats 4000000 in
theorem PS.token {X : Fx} {w : World} {a op : Nat} {s : St} {F : Nat → Prop} (h : PS X w a op s F) (hX : X.Ok) {c0 : Int} {r0 : List Int} (hr : s.rest = c0 :: r0) (hd : delimB c0 = false) :
    Calls Tryz.prog 132 #[pptr X.p] w (Out X w op F retW (tokenG s)) := by
  obtain ⟨R, hR⟩ : ∃ R, tokenG s = R := ⟨_, rfl⟩
  rw [hR]
  have h1 := h.alloc wbox0
  have hbd := (h1.build (PAfter.refl X _ F))
  have hpos := h.pos
  have hl0 : s.rest.length ≤ X.l.length := by have := h.n; omega
  obtain ⟨w1, hw1⟩ : ∃ w1, w1 = w.alloc wbox0 := ⟨_, rfl⟩
  have hM := h.mine (Nat.le_refl _)
  have hA1 : PAfter X w w1 F F := by rw [hw1]; exact .of_below (bel_box _ _)
  have hB1 : Blk w1 w.heap.size #[.int .i64 0, .int .i64 0] 28 := by rw [hw1]; exact Blk.new w _ _
  have hz1 : w1.heap.size = w.heap.size + 1 := by rw [hw1]; simp
  obtain ⟨_, _, _, c3, _, _⟩ := Blk.six h1.blk
  rw [← hw1] at hbd
  have HT0 : Hid (TokAt X w1 (w1.alloc (.cells #[.pointer none, .slice none 0 0] 171)) op (w.heap.size + 1) s F (.bool true)) :=
    ⟨a, [], true, s.rest, rfl, by rw [← hz1]; exact hbd, rfl, by simp, fun _ => rfl, by simpa using hl0⟩
  have HX := Lib.hid hX
  have HR := Lib.hid hR
  have HM := Lib.hid hM
  have HA1 := Lib.hid hA1
  have HB1 := Lib.hid hB1
  have HPos := Lib.hid hpos
  have HRest := Lib.hid hr
  have HD := Lib.hid hd
  have HW1 := Lib.hid hw1
  have HZ1 := Lib.hid hz1
  obtain ⟨n, hn⟩ : ∃ n, w.heap.size = n := ⟨_, rfl⟩
  rw [hn] at HT0 HM HB1 HZ1
  have HN := Lib.hid hn
  clear h h1 hbd hpos hl0 hM hA1 hB1 hz1 hr hd hX hR
  go_enter Tryz.func132, Tryz.ntmps132
  go_wp2_with fail
  rw [← hw1]
  have hn2 : w1.heap.size = n + 1 := HZ1.out
  try simp only [hn, hn2]
  clear hn hn2 hw1 c3
  go_loopw [4] (fun u wr => TokAt X w1 wr op (n + 1) s F u) (fun _ wr => X.l.length - atOf wr X.p)
  case atStart => exact HT0.out
  case round =>
    obtain ⟨a1, acc, pl, r, rfl, hB, ht, hc, hne, hlen⟩ := hrel
    have hs := HX.out.short
    have hend := hB.ps.ends HX.out 0 (by omega) (a1 : Int) (by omega)
    rw [List.drop_zero] at hend
    obtain ⟨_, _, _, c3, _, _⟩ := Blk.six hB.ps.blk
    have HP1 := Lib.hid hB.ps.atIs
    cases hex : endsB r with
    | false =>
      simp only [hex] at hend
      have HE := Lib.hid hend
      cases r with
      | nil => cases hex
      | cons c r =>
        have hcd : delimB c = false := hex
        have hcc : isC c := HX.out.chars c (List.mem_of_mem_drop (by rw [hB.ps.at_]; simp))
        have HTk := Lib.hid (hB.ps.take HX.out rfl)
        have hal : acc.length ≤ 1000000 := by simp at hlen; omega
        by_cases e92 : c = 92
        · subst e92
          cases r with
          | nil =>
            have HR2 : Hid (R = .err 5 0 s.ob s.tb) := by
              show _ = _
              rw [← HR.out]
              unfold tokenG
              rw [← ht]
              rfl
            have HW := Lib.hid (fun w2 (hP : PS X w2 (a1 + 1) op ⟨[], s.ob, s.tb⟩ F) => hP.takeEnd HX.out rfl)
            have HB := Lib.hid hB
            clear hend ht hc hne hlen hB hcc hcd hal hs
            go_wp2_with (first
              | (go_at_call 169; refine HE.out.mono ?_; rintro e w' ⟨rfl, rfl⟩))
            refine HTk.out.mono ?_
            rintro e w2 ⟨rfl, hP2, hA2⟩
            have HP2 := Lib.hid (And.intro hP2 hA2)
            clear hP2 hA2 c3
            go_wp2_with fail
            refine (HW.out _ HP2.out.1).mono ?_
            rintro e w3 ⟨rfl, rfl⟩
            unfold faultE
            go_wp2_with fail
            refine ⟨rfl, ?_⟩
            rw [HR2.out]
            exact ⟨rfl, F, HP2.out.1.ht, (HA1.out.trans HB.out.aft).trans HP2.out.2⟩
          | cons d r =>
            have hcd2 : isC d := HX.out.chars d (List.mem_of_mem_drop (by rw [hB.ps.at_]; simp))
            obtain ⟨q0, q1, _⟩ := hcd2
            have HW := Lib.hid (fun w2 (hP : PS X w2 (a1 + 1) op ⟨d :: r, s.ob, s.tb⟩ F) => hP.take HX.out rfl)
            have HWr := Lib.hid (fun w3 (hP : Bd X w1 w3 (a1 + 1 + 1) op (n + 1) (n + 1) ⟨r, s.ob, s.tb⟩ F acc) => hP.write d (HX.out.chars d (List.mem_of_mem_drop (by rw [hB.ps.at_]; simp))) hal)
            have HF := Lib.hid (fun w4 (hP : Bd X w1 w4 (a1 + 1 + 1) op (n + 1) (n + 1) ⟨r, s.ob, s.tb⟩ F (acc ++ [d])) => show TokAt X w1 w4 op (n + 1) s F (.bool false) from ⟨a1 + 1 + 1, acc ++ [d], false, r, rfl, hP, by rw [← ht, tokF.eq_def false acc pl (92 :: d :: r)]; simp only; rw [if_neg (by decide)]; simp only [if_true]; rw [tokF.eq_def true], fun x hx => by
              rcases List.mem_append.1 hx with hx | hx
              · exact hc x hx
              · simp at hx; subst hx; exact HX.out.chars x (List.mem_of_mem_drop (by rw [hB.ps.at_]; simp)), fun e => by simp at e, by simp at hlen ⊢; omega⟩)
            have HB := Lib.hid hB
            have HLe : Hid (a1 + 1 + 1 ≤ X.l.length) := by
              have := hB.ps.n
              show _ ≤ _
              simp at this
              omega
            clear hend ht hc hne hlen hB hcc hcd hal hs
            go_wp2_with (first
              | (go_at_call 169; refine HE.out.mono ?_; rintro e w' ⟨rfl, rfl⟩))
            refine HTk.out.mono ?_
            rintro e w2 ⟨rfl, hP2, hA2⟩
            have HP2 := Lib.hid (And.intro hP2 hA2)
            clear hP2 hA2 c3
            go_wp2_with fail
            refine (HW.out _ HP2.out.1).mono ?_
            rintro e w3 ⟨rfl, hP3, hA3⟩
            have HP3 := Lib.hid (HB.out.act hP3 (HP2.out.2.trans hA3))
            clear hP3 hA3
            go_wp2_with fail
            refine (HWr.out _ HP3.out).mono ?_
            rintro e w4 ⟨⟨v, rfl⟩, hB4⟩
            have HB4 := Lib.hid hB4
            clear hB4
            go_wp2_with fail
            go_roundw
            case rel => exact HF.out _ HB4.out
            case measure => have h1 := HP1.out; have h2 := HB4.out.ps.atIs; have h3 := HLe.out; rw [h1, h2]; omega
        · have n92 : (c == 92) = false := by simpa using e92
          obtain ⟨q0, q1, _⟩ := hcc
          have HWr := Lib.hid (fun w3 (hP : Bd X w1 w3 (a1 + 1) op (n + 1) (n + 1) ⟨r, s.ob, s.tb⟩ F acc) => hP.write c (HX.out.chars c (List.mem_of_mem_drop (by rw [hB.ps.at_]; simp))) hal)
          have HF := Lib.hid (fun w4 (hP : Bd X w1 w4 (a1 + 1) op (n + 1) (n + 1) ⟨r, s.ob, s.tb⟩ F (acc ++ [c])) => show TokAt X w1 w4 op (n + 1) s F (.bool pl) from ⟨a1 + 1, acc ++ [c], pl, r, rfl, hP, by rw [← ht, tokF.eq_def false acc pl (c :: r)]; simp only; rw [if_neg (by simp [hcd]), if_neg e92], fun x hx => by
            rcases List.mem_append.1 hx with hx | hx
            · exact hc x hx
            · simp at hx; subst hx; exact HX.out.chars x (List.mem_of_mem_drop (by rw [hB.ps.at_]; simp)), fun e => by simp at e, by simp at hlen ⊢; omega⟩)
          have HB := Lib.hid hB
          have HLe : Hid (a1 + 1 ≤ X.l.length) := by
            have := hB.ps.n
            show _ ≤ _
            simp at this
            omega
          clear hend ht hc hne hlen hB hcd hal hs e92
          go_wp2_with (first
            | (go_at_call 169; refine HE.out.mono ?_; rintro e w' ⟨rfl, rfl⟩))
          refine HTk.out.mono ?_
          rintro e w2 ⟨rfl, hP2, hA2⟩
          have HP3 := Lib.hid (HB.out.act hP2 hA2)
          clear hP2 hA2 c3
          go_wp2_with fail
          refine (HWr.out _ HP3.out).mono ?_
          rintro e w4 ⟨⟨v, rfl⟩, hB4⟩
          have HB4 := Lib.hid hB4
          clear hB4
          go_wp2_with fail
          go_roundw
          case rel => exact HF.out _ HB4.out
          case measure => have h1 := HP1.out; have h2 := HB4.out.ps.atIs; have h3 := HLe.out; rw [h1, h2]; omega
    | true =>
      simp only [hex] at hend
      have HE := Lib.hid hend
      have hacc : acc ≠ [] := fun e => by
        have h1 := hne e
        rw [h1, HRest.out] at hex
        rw [show endsB (c0 :: r0) = delimB c0 from rfl, HD.out] at hex
        cases hex
      have hR2 : R = (if pl = true ∧ acc = [46] then .err 5 s.rest.length s.ob s.tb else if pl = true ∧ numB acc = true then intG s acc r else symG s acc r) := by
        rw [← HR.out]
        unfold tokenG
        rw [← ht, tok_ends hex]
      have hal : acc.length ≤ 1000000 := by omega
      have HTE : Hid (∀ w2, PS X w2 a1 op ⟨r, s.ob, s.tb⟩ F ∧ PAfter X w1 w2 F F → TokEnd X w w1 w2 a1 op ⟨r, s.ob, s.tb⟩ F) := fun w2 hh => ⟨hh.1, HA1.out.trans hh.2, by rw [HN.out]; exact HM.out, by rw [HN.out]; exact (hh.2.blk HB1.out HM.out.f HM.out.p).1⟩
      have hst := hB.string
      obtain ⟨S, hS⟩ : ∃ S, strOf (enc acc) = S := ⟨_, rfl⟩
      rw [hS] at hst
      have HSt := Lib.hid hst
      have HPo := Lib.hid HPos.out
      by_cases hpl : pl = true
      · subst hpl
        by_cases h46 : acc = [46]
        · subst h46
          rw [if_pos ⟨rfl, rfl⟩] at hR2
          subst hR2
          have hS2 : S = ⟨#[46]⟩ := by rw [← hS]; rfl
          subst hS2
          clear hend ht hc hne hlen hB hacc hal hst hS hex hs
          go_wp2_with (first
            | (go_at_call 169; refine HE.out.mono ?_; rintro e w' ⟨rfl, rfl⟩))
          refine HSt.out.mono ?_
          rintro e w2 ⟨rfl, hw2⟩
          have HW2 := Lib.hid (HTE.out w2 hw2)
          clear hw2 c3
          go_wp2_with fail
          exact ⟨rfl, by rw [HPo.out]; rfl, F, HW2.out.ps.ht, HW2.out.aft⟩
        · rw [if_neg (fun e => h46 e.2)] at hR2
          have hS46 : S ≠ ⟨#[46]⟩ := fun e => h46 ((dot_iff hc).1 (hS.trans e))
          have hnum := numeral_any acc hacc hc hal
          rw [hS] at hnum
          have q46 : (S.toList == [46]) = false := by
            rw [beq_eq_false_iff_ne]
            exact fun e => hS46 (by
              rw [toList_data] at e
              cases S
              rename_i d
              have : d.toList = [46] := e
              congr
              apply Array.toList_inj.1
              exact this)
          cases hnb : numB acc with
          | true =>
            rw [hnb] at hnum
            have HNu := Lib.hid hnum
            rw [if_pos ⟨rfl, hnb⟩] at hR2
            have hint := fun W (hE : ErrVar W) => integer_any acc hnb hc hal a W hE
            rw [hS] at hint
            unfold intG at hR2
            by_cases hin : -2305843009213693952 ≤ intV acc ∧ intV acc ≤ 2305843009213693951
            · rw [if_pos hin] at hR2
              unfold intE at hint
              rw [if_pos hin] at hint
              obtain ⟨v, hv⟩ : ∃ v, intV acc = v := ⟨_, rfl⟩
              rw [hv] at hint hR2
              have HInt := Lib.hid hint
              subst hR2
              clear hend ht hc hne hlen hB hacc hal hst hS hex hs hS46 hnum hnb h46 hin hv hint
              go_wp2_with (first
                | (go_at_call 169; refine HE.out.mono ?_; rintro e w' ⟨rfl, rfl⟩))
              refine HSt.out.mono ?_
              rintro e w2 ⟨rfl, hw2⟩
              have HW2 := Lib.hid (HTE.out w2 hw2)
              clear hw2 c3
              go_wp2_with fail
              refine (HNu.out _).mono ?_
              rintro e w3 ⟨rfl, hb3⟩
              have HW3 := Lib.hid (HW2.out.later hb3)
              clear hb3
              go_wp2_with fail
              refine (HInt.out _ (HW3.out.ps.sys HX.out).err).mono ?_
              rintro e w4 ⟨rfl, hb4⟩
              have hw4 := HW3.out.later hb4
              obtain ⟨b0, b1, e0, e1⟩ := hw4.box.two
              rw [HN.out] at b0 b1 e0 e1
              have HW4 := Lib.hid hw4
              clear hb4 hw4
              go_wp2_with fail
              have hf := HW4.out.fin (.int .i64 0) (.int .i64 v)
              rw [HN.out] at hf
              refine bodyPost_ret (v := wd (0, v)) (by simp [results, Tryz.results132, go_sem, b0, b1]) rfl ⟨a1, F, rfl, hf.1, hf.2⟩
            · rw [if_neg hin] at hR2
              unfold intE at hint
              rw [if_neg hin] at hint
              have HInt := Lib.hid hint
              subst hR2
              clear hend ht hc hne hlen hB hacc hal hst hS hex hs hS46 hnum hnb h46 hin hint
              go_wp2_with (first
                | (go_at_call 169; refine HE.out.mono ?_; rintro e w' ⟨rfl, rfl⟩))
              refine HSt.out.mono ?_
              rintro e w2 ⟨rfl, hw2⟩
              have HW2 := Lib.hid (HTE.out w2 hw2)
              clear hw2 c3
              go_wp2_with fail
              refine (HNu.out _).mono ?_
              rintro e w3 ⟨rfl, hb3⟩
              have HW3 := Lib.hid (HW2.out.later hb3)
              clear hb3
              go_wp2_with fail
              refine (HInt.out _ (HW3.out.ps.sys HX.out).err).mono ?_
              rintro e w4 ⟨rfl, hb4⟩
              have HW4 := Lib.hid (HW3.out.later hb4)
              clear hb4
              unfold faultE
              go_wp2_with fail
              exact ⟨rfl, by rw [HPo.out]; rfl, F, HW4.out.ps.ht, HW4.out.aft⟩
          | false =>
            rw [hnb] at hnum
            have HNu := Lib.hid hnum
            rw [if_neg (fun e => by rw [hnb] at e; cases e.2)] at hR2
            have hlen4 := enc_len4 acc
            have hsz : S.size ≤ 4611686018427387904 := by rw [← hS, strOf_size]; omega
            have HI := Lib.hid (fun W (hP : PS X W a1 op ⟨r, s.ob, s.tb⟩ F) => hP.intern HX.out S hsz s.rest.length a HPo.out.symm)
            rw [symG_intern, hS] at hR2
            have HR2 := Lib.hid hR2
            clear hend ht hc hne hlen hB hacc hal hst hS hex hs hS46 hnum hnb h46 hlen4 hsz hR2
            go_wp2_with (first
              | (go_at_call 169; refine HE.out.mono ?_; rintro e w' ⟨rfl, rfl⟩))
            refine HSt.out.mono ?_
            rintro e w2 ⟨rfl, hw2⟩
            have HW2 := Lib.hid (HTE.out w2 hw2)
            clear hw2 c3
            go_wp2_with fail
            refine (HNu.out _).mono ?_
            rintro e w3 ⟨rfl, hb3⟩
            have HW3 := Lib.hid (HW2.out.later hb3)
            clear hb3
            go_wp2_with fail
            refine (HI.out _ HW3.out.ps).mono ?_
            intro e w4 ho
            rcases ho.tail HW3.out.aft HW3.out.mine (Nat.le_refl _) HW3.out.box with ⟨x, rfl, hB4, hO⟩ | ⟨cc, kk, rfl, hO⟩
            · rw [← HR2.out] at hO
              rw [HN.out] at hB4 hO
              obtain ⟨b0, b1, e0, e1⟩ := hB4.two
              have HO := Lib.hid hO
              clear hO hB4 ho
              go_wp2_with fail
              exact bodyPost_ret (v := wd x) (by simp [results, Tryz.results132, go_sem, b0, b1]) rfl HO.out
            · rw [← HR2.out] at hO
              have HO := Lib.hid hO
              clear hO ho
              go_wp2_with fail
              exact ⟨rfl, HO.out⟩
      · rw [if_neg (fun e => hpl e.1), if_neg (fun e => hpl e.1)] at hR2
        have hpl2 : pl = false := by simpa using hpl
        subst hpl2
        have hlen4 := enc_len4 acc
        have hsz : S.size ≤ 4611686018427387904 := by rw [← hS, strOf_size]; omega
        have HI := Lib.hid (fun W (hP : PS X W a1 op ⟨r, s.ob, s.tb⟩ F) => hP.intern HX.out S hsz s.rest.length a HPo.out.symm)
        rw [symG_intern, hS] at hR2
        have HR2 := Lib.hid hR2
        clear hend ht hc hne hlen hB hacc hal hst hS hex hs hlen4 hsz hR2 hpl
        go_wp2_with (first
          | (go_at_call 169; refine HE.out.mono ?_; rintro e w' ⟨rfl, rfl⟩))
        refine HSt.out.mono ?_
        rintro e w3 ⟨rfl, hw2⟩
        have HW3 := Lib.hid (HTE.out w3 hw2)
        clear hw2 c3
        go_wp2_with fail
        refine (HI.out _ HW3.out.ps).mono ?_
        intro e w4 ho
        rcases ho.tail HW3.out.aft HW3.out.mine (Nat.le_refl _) HW3.out.box with ⟨x, rfl, hB4, hO⟩ | ⟨cc, kk, rfl, hO⟩
        · rw [← HR2.out] at hO
          rw [HN.out] at hB4 hO
          obtain ⟨b0, b1, e0, e1⟩ := hB4.two
          have HO := Lib.hid hO
          clear hO hB4 ho
          go_wp2_with fail
          exact bodyPost_ret (v := wd x) (by simp [results, Tryz.results132, go_sem, b0, b1]) rfl HO.out
        · rw [← HR2.out] at hO
          have HO := Lib.hid hO
          clear hO ho
          go_wp2_with fail
          exact ⟨rfl, HO.out⟩
end Go.Proofs.YtlibdhnlmekmhaaGreatDoor.Rd
end

/- The contract of ValidRune of this translation, laid at its numbers. -/
section
namespace Go.Proofs
open Go.Shelf
def Tryz.lays119_ren : Go.Shelf.Ren := ⟨fun | 119 => 244 | n => n, fun | 21 => 21 | 4 => 4 | n => n, fun | n => n⟩
theorem Tryz.lays119 : Go.Proofs.Lays.n119 Tryz.prog Tryz.lays119_ren := {
  mixed := by kernel_rfl
  f119 := Tryz.func244.trans (congrArg some (by kernel_rfl))
  t4 := Tryz.underlying4
  a4 := Tryz.isAgg4
  z4 := Tryz.sizeOf4
  v4 := Tryz.zeroValue4
  t21 := Tryz.underlying21
  a21 := Tryz.isAgg21
  z21 := Tryz.sizeOf21
  v21 := Tryz.zeroValue21 }
theorem Tryz.utf8_ValidRune (r : Int) (w : World) :
    Calls Tryz.prog 244 #[.int .i32 r] w fun e w' => e = .returned (.bool (Lib.validRune r)) ∧ w' = w := Any.utf8_ValidRune Tryz.lays119 r w
end Go.Proofs
end

/- The contracts of digit, control, numbered, textEscape. -/
section
namespace Go.Proofs.YtlibdhnlmekmhaaGreatDoor.Rd
set_option maxRecDepth 100000
open Go.RowKit Go.Lib
open Go.Proofs.YtlibdhnlmekmhaaGreatDoor.Own Go.Proofs.YtlibdhnlmekmhaaGreatDoor.Hp Go.Proofs.YtlibdhnlmekmhaaGreatDoor.Rep Go.Proofs.YtlibdhnlmekmhaaGreatDoor.Get Go.Proofs.YtlibdhnlmekmhaaGreatDoor.Utf Go.Proofs.YtlibdhnlmekmhaaGreatDoor.Chars

def hexS : ByteArray := ⟨#[48, 49, 50, 51, 52, 53, 54, 55, 56, 57, 97, 98, 99, 100, 101, 102]⟩
theorem index_none : ∀ {l : List UInt8} {c : UInt8}, (∀ b ∈ l, b ≠ c) → indexByte l c = -1
  | [], c, _ => rfl
  | b :: l, c, h => by
    have h1 : (b == c) = false := by simpa using h b (by simp)
    have h2 := index_none (l := l) (c := c) fun x hx => h x (List.mem_cons_of_mem _ hx)
    rw [indexByte, h1, h2]
    rfl
theorem high_other (r : Int) (h : 128 ≤ r) (hc : isC r) (hne : r ≠ 65533) (w : World) :
    Calls Tryz.prog 232 #[.string hexS, .int .i32 r] w fun e w' => e = .returned (.int .i64 (-1)) ∧ Below w.heap.size w w' := by
  have HAs : Hid (∀ b ∈ hexS.data.toList, b.toNat < 128) := (show ∀ b ∈ hexS.data.toList, b.toNat < 128 by decide)
  have HSz : Hid (hexS.size = 16) := (rfl : hexS.size = 16)
  generalize hexS = H at *
  have n1 : ¬ r < 128 := by omega
  have n0 : 0 ≤ r := by omega
  have n2 : (r == 65533) = false := by simpa using hne
  have HV := Lib.hid (fun w => (Tryz.utf8_ValidRune r w).mono (R' := fun e w' => e = .returned (.bool (Lib.validRune r)) ∧ w = w') fun e w' ⟨h1, h2⟩ => ⟨h1, h2.symm⟩)
  have hv : Lib.validRune r = true := by
    obtain ⟨a, b, c⟩ := hc
    unfold Lib.validRune
    simp
    omega
  have hv2 : Utf8.valid r = true := by rw [validRune_eq]; exact hv
  obtain ⟨e0, e1, e2⟩ := encode_facts r hv2 h
  rw [hv] at HV
  obtain ⟨U, hU⟩ : ∃ U, Utf8.encode r = U := ⟨_, rfl⟩
  have hcv : ∀ w : World, (convert 21 9 (.int .i32 r)).run Tryz.prog w = .ok (.string U) w := fun w => by
    rw [run_convert_int_string w 21 9 .i32 r (by rw [Tryz.underlying21]; rfl) Tryz.underlying9, hU]
  simp only [hU] at e0 e1 e2
  obtain ⟨L, hL⟩ : ∃ L, U.size = L + 1 := ⟨U.size - 1, by omega⟩
  have e3 : 128 ≤ (U[L]'(by omega)).toNat := by
    have := e2 (by omega)
    simpa only [hL, Nat.add_sub_cancel] using this
  clear hv hv2 hU hc hne e2
  have hL16 : (L : Int) < 16 := by omega
  have hLI : (U.size : Int) - 1 = (L : Int) := by omega
  go_enter Tryz.func232, Tryz.ntmps232
  go_wp2_with (first
    | (go_at_call 244; refine (HV.out _).mono ?_; rintro e w' ⟨rfl, rfl⟩))
  go_step3
  go_wp2_with fail
  go_loopw [9, 10] (fun u v wr => u = .int .i64 (L : Int) ∧ v = .int .i64 0 ∧ Below w.heap.size w wr) (fun _ _ _ => 0)
  case atStart => exact ⟨rfl, rfl, Below.refl _ _⟩
  case round =>
    obtain ⟨rfl, rfl, hb⟩ := hrel
    have hL4 : L < H.size := by have := HSz.out; omega
    have hL0' : (0 : Int) ≤ (L : Int) := by omega
    have hL5 : (L : Int) < (H.size : Int) := by omega
    have hL6 : L < U.size := by omega
    have hx1 : (0 : Int) ≤ (L : Int) ∧ (L : Int) < (H.size : Int) := ⟨hL0', hL5⟩
    have hx2 : (0 : Int) ≤ (L : Int) ∧ (L : Int) < (U.size : Int) := ⟨hL0', by omega⟩
    have hr1 : ∀ w : World, (Instr.index 9 (.string H) (.int .i64 (L : Int))).run Tryz.prog w = .ok (.int .u8 (H[L].toNat : Int)) w := fun w => by
      rw [run_index_string w 9 H .i64 (L : Int) Tryz.underlying9]
      simp [hL4]
    have hr2 : ∀ w : World, (Instr.index 9 (.string U) (.int .i64 (L : Int))).run Tryz.prog w = .ok (.int .u8 (U[L].toNat : Int)) w := fun w => by
      rw [run_index_string w 9 U .i64 (L : Int) Tryz.underlying9]
      simp [hL6]
    have HLH : Hid (H[L].toNat < 128) := HAs.out _ (by
      have : H[L] ∈ H.data.toList := Array.getElem_mem_toList (xs := H.data) hL4
      exact this)
    have hne : (H[L].toNat == U[L].toNat) = false := by
      have := HLH.out
      rw [beq_eq_false_iff_ne]
      omega
    have hne2 : (H[L].toNat != U[L].toNat) = true := by rw [bne, hne]; rfl
    have hU4 : (L : Int) < (U.size : Int) := by omega
    have hL0 : (0 : Int) ≤ (L : Int) := by omega
    go_wp2_with fail
    go_step3
    go_wp2_with fail
    go_quiet (fail)
    go_wp2_with fail
    have hsum : IntKind.i64.wrap ((L : Int) + 1) = (L : Int) + 1 := IntWalk.i64_in _ (by omega)
    have hsl : ∀ w : World, (Instr.slice 9 (.string H) (some (.int .i64 ((L : Int) + 1))) none none).run Tryz.prog w = .ok (.string (H.extract (L + 1) H.size)) w := fun w => by
      rw [run_slice_string_l w 9 H Tryz.underlying9 .i64 ((L : Int) + 1) (by omega) (by omega)]
      congr
    have HIB : Hid (∀ w, Calls Tryz.prog 243 #[.string (H.extract (L + 1) H.size), .int .u8 (U[L].toNat : Int)] w fun e w' => e = .returned (.int .i64 (-1)) ∧ w = w') := fun w => by
      refine (Tryz.strings_IndexByte (H.extract (L + 1) H.size) (U[L].toNat : Int) w).mono ?_
      rintro e w' ⟨he, hw⟩
      rw [index_none (fun b hb e => by
        have h1 := HAs.out b (mem_extract hb)
        rw [e] at h1
        simp at h1
        omega)] at he
      exact ⟨he, hw.symm⟩
    go_quiet ((go_at_call 243; (first | exact quiet_left HIB.out | exact quiet_add HIB.out | exact (HIB.out _).mono fun _ _ ⟨he, hm⟩ => ⟨he, _, hm.symm⟩)))
    go_wp2_with fail
    rw [Exit.noGoto_ret]
    go_wp2_with fail
    rw [Exit.noGoto_ret]
    go_wp2_with fail
    go_ret
    exact ⟨rfl, Own.below_drewN hb _⟩
theorem high_fffd (w : World) :
    Calls Tryz.prog 232 #[.string hexS, .int .i32 65533] w fun e w' => e = .returned (.int .i64 (-1)) ∧ Below w.heap.size w w' := by
  have HAs : Hid (∀ b ∈ hexS.data.toList, b.toNat < 128) := (show ∀ b ∈ hexS.data.toList, b.toNat < 128 by decide)
  have HSz : Hid (hexS.size = 16) := (rfl : hexS.size = 16)
  generalize hexS = H at *
  go_enter Tryz.func232, Tryz.ntmps232
  go_wp2_with fail
  go_loopw [] (fun wr => ∃ pos, wr.heap[w.heap.size]? = some (.stringIter H pos) ∧ Below w.heap.size w wr) (fun wr => H.size - wr.iterPos w.heap.size)
  case atStart => exact ⟨0, World.iter_heap _ _ _, (Below.refl _ _).alloc (Nat.le_refl _) _⟩
  case round =>
    obtain ⟨pos, hit, hb⟩ := hrel
    by_cases hp : pos < H.size
    · have hnx : ∀ ty, (Instr.next (.pointer (some ⟨w.heap.size, 0, none⟩)) true ty).run Tryz.prog wr = _ := fun ty => run_next_any_at wr w.heap.size H pos ty hit hp
      have hd : Utf8.decode H pos = (H[pos].toNat, 1) := by
        rw [← from_decode, from_, List.drop_eq_getElem_cons (by simpa using hp)]
        exact decodeL_ascii _ _ (HAs.out _ (List.getElem_mem _))
      have h128 : H[pos].toNat < 128 := HAs.out _ (by
        have : H[pos] ∈ H.data.toList := Array.getElem_mem_toList (xs := H.data) hp
        exact this)
      rw [hd] at hnx
      have hit2 := iterAt_heap wr w.heap.size H pos (pos + 1) hit
      have hb2 := below_iterAt hb (Nat.le_refl _) H (pos + 1)
      obtain ⟨c, hc⟩ : ∃ c, H[pos].toNat = c := ⟨_, rfl⟩
      rw [hc] at hnx h128
      obtain ⟨wi, hwi⟩ : ∃ wi, wi = wr.iterAt w.heap.size H (pos + 1) := ⟨_, rfl⟩
      rw [← hwi] at hit2 hb2
      change ∀ ty, (Instr.next (.pointer (some ⟨w.heap.size, 0, none⟩)) true ty).run Tryz.prog wr = .ok (.tuple #[.bool true, .int .i64 pos, .int .i32 c]) (wr.iterAt w.heap.size H (pos + 1)) at hnx
      rw [← hwi] at hnx
      have n1 : ((c : Int) == 65533) = false := by simp; omega
      have n2 : (c == 65533) = false := by simp; omega
      have HI0 := Lib.hid hit
      have HI2 := Lib.hid hit2
      have HB2 := Lib.hid hb2
      clear hit hit2 hb2 hb hd hwi hc h128
      go_wp2_with fail
      go_roundw
      case rel => exact ⟨pos + 1, HI2.out, HB2.out⟩
      case measure =>
        have e1 : wi.iterPos w.heap.size = pos + 1 := by simp [World.iterPos, HI2.out]
        have e2 : wr.iterPos w.heap.size = pos := by simp [World.iterPos, HI0.out]
        omega
    · have hnx : ∀ ty, (Instr.next (.pointer (some ⟨w.heap.size, 0, none⟩)) true ty).run Tryz.prog wr = _ := fun ty => run_next_end_at wr w.heap.size H pos ty hit hp
      have HB2 := Lib.hid hb
      clear hb hit
      go_wp2_with fail
      go_ret
      exact ⟨rfl, HB2.out⟩
/-- The place of a hexadecimal digit. -/
theorem hex_index : ∀ d : Nat, d < 128 → indexByte hexS.data.toList (Int.toNat (d : Int)).toUInt8 = if 48 ≤ d ∧ d ≤ 57 then (d : Int) - 48 else if 97 ≤ d ∧ d ≤ 102 then (d : Int) - 87 else -1 := by decide +kernel
theorem digit_any (c : Int) (hc : isC c) (w : World) :
    Calls Tryz.prog 212 #[.int .i64 c] w fun e w' => e = .returned (.int .i64 (digZ c)) ∧ Below w.heap.size w w' := by
  have hd := down_is c ((isZ_iff c).2 hc)
  have hdc := (isZ_iff _).1 hd
  have HD := Lib.hid (down_any c w (by have := hc.1; omega) (by have := hc.2.1; omega))
  have HI : Hid (∀ W, Calls Tryz.prog 232 #[.string hexS, .int .i32 (downZ c)] W fun e w' => e = .returned (.int .i64 (digZ c)) ∧ Below W.heap.size W w') := fun W => by
    by_cases h : downZ c < 128
    · refine (Tryz.strings_IndexRune_ascii hexS (downZ c) W hdc.1 h).mono ?_
      rintro e w' ⟨he, rfl⟩
      refine ⟨?_, Below.refl _ _⟩
      obtain ⟨d, hdd⟩ := Int.eq_ofNat_of_zero_le hdc.1
      have := hex_index d (by omega)
      rw [he, hdd, this]
      unfold digZ
      rw [hdd]
      congr 2
      split
      · rw [if_pos (by omega)]
      · split
        · rw [if_neg (by omega), if_pos (by omega)]
        · rw [if_neg (by omega), if_neg (by omega)]
    · have e1 : digZ c = -1 := by
        unfold digZ
        rw [if_neg (by omega), if_neg (by omega)]
      rw [e1]
      by_cases hf : downZ c = 65533
      · rw [hf]
        exact high_fffd W
      · exact high_other _ (by omega) hdc hf W
  have h0 := hdc.1
  have h1 := hdc.2.1
  clear hd hdc hc
  generalize downZ c = d at *
  generalize digZ c = z at *
  have HI2 : Hid (∀ W, Calls Tryz.prog 232 #[.string ⟨#[48, 49, 50, 51, 52, 53, 54, 55, 56, 57, 97, 98, 99, 100, 101, 102]⟩, .int .i32 d] W fun e w' => e = .returned (.int .i64 z) ∧ Below W.heap.size W w') := HI
  clear HI
  go_enter Tryz.func212, Tryz.ntmps212
  go_wp2_with (first
    | (go_at_call 202; refine HD.out.mono ?_; rintro e w1 ⟨rfl, hb1⟩)
    | (go_at_call 232; refine (HI2.out _).mono ?_; rintro e w2 ⟨rfl, hb2⟩))
  go_ret
  exact ⟨rfl, hb1.trans (hb2.mono hb1.size)⟩
theorem control_yes (c k : Int) (h : ctlZ c = some k) (x : Int) (w : World) : Calls Tryz.prog 197 #[.int .i64 c, .int .i64 x] w fun e w' => e = .returned (.int .i64 k) ∧ w = w' := by
  unfold ctlZ at h
  go_enter Tryz.func197, Tryz.ntmps197
  go_wp2
  all_goals first
    | (go_ret; exact ⟨by simp_all, rfl⟩)
    | (exfalso; simp_all)
theorem control_no (c : Int) (h : ctlZ c = none) (k : Nat) (w : World) : Calls Tryz.prog 197 #[.int .i64 c, .int .i64 (k : Int)] w fun e w' => e = faultE 5 k ∧ w = w' := by
  have n1 : (c == 110) = false := by rw [beq_eq_false_iff_ne]; rintro rfl; cases h
  have n2 : (c == 116) = false := by rw [beq_eq_false_iff_ne]; rintro rfl; cases h
  have n3 : (c == 101) = false := by rw [beq_eq_false_iff_ne]; rintro rfl; cases h
  clear h
  unfold faultE
  go_enter Tryz.func197, Tryz.ntmps197
  go_wp2
  exact ⟨rfl, rfl, rfl⟩
end Go.Proofs.YtlibdhnlmekmhaaGreatDoor.Rd
end
