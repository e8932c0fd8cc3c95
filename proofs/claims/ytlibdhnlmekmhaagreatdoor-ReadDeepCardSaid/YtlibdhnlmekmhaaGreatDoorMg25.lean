/- The contract of token. | The contract of token: the walk. | The contract of ValidRune of this translation, laid at its numbers. -/
import Derived.Shelf.Small.Utf8
import Derived.Test.YtlibdhnlmekmhaaGreatDoorMg03
import Derived.Test.YtlibdhnlmekmhaaGreatDoorMg18
import Derived.Test.YtlibdhnlmekmhaaGreatDoorMg20
/- The contract of token. -/
section
namespace Go.Proofs.YtlibdhnlmekmhaaGreatDoor.Rd
set_option maxRecDepth 100000
open Go.RowKit Go.Lib
open Go.Proofs.YtlibdhnlmekmhaaGreatDoor.Own Go.Proofs.YtlibdhnlmekmhaaGreatDoor.Hp Go.Proofs.YtlibdhnlmekmhaaGreatDoor.Rep Go.Proofs.YtlibdhnlmekmhaaGreatDoor.Get Go.Proofs.YtlibdhnlmekmhaaGreatDoor.Utf Go.Proofs.YtlibdhnlmekmhaaGreatDoor.Build

theorem builder_keeps {T e : TypeId} {B b : Nat} {bs : List Value} {w w' : World} {G : Nat → Prop} (h : IsBuilderF T e B b bs w) (hk : Keeps G w w') (hG : ∀ k, G k → k < B) : IsBuilderF T e B b bs w' := by
  have key : ∀ p, BuilderAtF T e B b p bs w → BuilderAtF T e B b p bs w' := by
    rintro p ⟨hB, v, hb, hr, hn⟩
    have hlt : ∀ {k : Nat} {o : Obj}, w.heap[k]? = some o → k < w.heap.size := fun hh => (Array.getElem?_eq_some_iff.1 hh).1
    refine ⟨hB, v, (hk.block b (hlt hb) fun e => by have := hG b e; omega).trans hb, ⟨hr.1, ?_⟩, hn⟩
    rcases hr.2 with h0 | ⟨g, cap, cur, fz, hv, hbg, hg, rest⟩
    · exact .inl h0
    · exact .inr ⟨g, cap, cur, fz, hv, hbg, (hk.block g (hlt hg) fun e => by have := hG g e; omega).trans hg, rest⟩
  rcases h with h | h
  · exact .inl (key _ h)
  · exact .inr (key _ h)
/-- All blocks of a parser's lie below B. -/
structure Low (X : Fx) (F : Nat → Prop) (B : Nat) : Prop where
  f : ∀ b, F b → b < B
  p : X.p < B
  g : X.g < B
  m : X.mb < B
  w : X.w0.heap.size ≤ B
theorem PS.lows {X : Fx} {w : World} {a op : Nat} {s : St} {F : Nat → Prop} (h : PS X w a op s F) : Low X F w.heap.size := ⟨fun _ hb => (h.ht.lt hb).2, h.blk.lt, h.row.lt, h.map.lt, h.below.size⟩
theorem keeps_above {B : Nat} {w w' : World} (h : Below B w w') : Keeps (fun b => B ≤ b) w w' := ⟨h.os, h.tape, h.output, h.size, fun k _ hn => h.block k (by omega)⟩
theorem PS.above {X : Fx} {w w' : World} {a op B : Nat} {s : St} {F : Nat → Prop} (h : PS X w a op s F) (hB : Low X F B) (hb : Below B w w') : PS X w' a op s F :=
  h.keeps (keeps_above hb) fun b hb => ⟨fun e => by have := hB.f b e; omega, by have := hB.p; omega, by have := hB.g; omega, by have := hB.m; omega, Nat.le_trans hB.w hb⟩
theorem PAfter.above {X : Fx} {w w1 w2 : World} {B : Nat} {F F' : Nat → Prop} (h : PAfter X w w1 F F') (hB : w.heap.size ≤ B) (hb : Below B w1 w2) : PAfter X w w2 F F' :=
  ⟨h.keeps.then (keeps_above hb) fun b hlt e => by omega, h.grow⟩
/-- A parser and a builder of strings beside it, laid since w. -/
structure Bd (X : Fx) (w wr : World) (a op B b : Nat) (s : St) (F : Nat → Prop) (acc : List Int) : Prop where
  ps : PS X wr a op s F
  aft : PAfter X w wr F F
  low : Low X F B
  wB : w.heap.size ≤ B
  Bw : B ≤ wr.heap.size
  bd : IsBuilderF 171 5 B b (byteCells (enc acc)) wr
/-- What the parser does alone. -/
theorem Bd.act {X : Fx} {w wr w' : World} {a a' op B b : Nat} {s s' : St} {F : Nat → Prop} {acc : List Int} (h : Bd X w wr a op B b s F acc) (hP : PS X w' a' op s' F) (hA : PAfter X wr w' F F) : Bd X w w' a' op B b s' F acc where
  ps := hP
  aft := h.aft.trans hA
  low := h.low
  wB := h.wB
  Bw := Nat.le_trans h.Bw hA.keeps.size
  bd := builder_keeps h.bd hA.keeps fun k hk => hk.elim (h.low.f k) fun e => e ▸ h.low.p
theorem byteCells_app (a b : List UInt8) : byteCells (a ++ b) = byteCells a ++ byteCells b := by simp [byteCells]
theorem byteCells_len (a : List UInt8) : (byteCells a).length = a.length := by simp [byteCells]
theorem Bd.write {X : Fx} {w wr : World} {a op B b : Nat} {s : St} {F : Nat → Prop} {acc : List Int} (h : Bd X w wr a op B b s F acc) (c : Int) (hc : isC c) (hl : acc.length ≤ 1000000) :
    Calls Tryz.prog 173 #[.pointer (some ⟨b, 0, none⟩), .int .i32 c] wr fun e w' => (∃ v, e = .returned v) ∧ Bd X w w' a op B b s F (acc ++ [c]) := by
  have h4 := enc_len4 acc
  refine (writeRune B b _ c (by have := hc.1; omega) (by have := hc.2.1; omega) wr h.bd (by rw [byteCells_len]; omega) h.Bw).mono ?_
  rintro e w' ⟨he, hb, hbel⟩
  refine ⟨he, h.ps.above h.low hbel, h.aft.above h.wB hbel, h.low, h.wB, Nat.le_trans h.Bw hbel.size, ?_⟩
  have e1 : byteCells (enc acc) ++ runeCells c = byteCells (enc (acc ++ [c])) := by
    rw [enc_append, byteCells_app, ← byteCells_encodeRune]
    simp [enc]
  rw [← e1]
  exact hb
theorem Bd.string {X : Fx} {w wr : World} {a op B b : Nat} {s : St} {F : Nat → Prop} {acc : List Int} (h : Bd X w wr a op B b s F acc) :
    Calls Tryz.prog 175 #[.pointer (some ⟨b, 0, none⟩)] wr fun e w' => e = .returned (.string (strOf (enc acc))) ∧ PS X w' a op s F ∧ PAfter X w w' F F := by
  refine (Tryz.Builder_String_any_f B b (enc acc) wr h.bd h.Bw).mono ?_
  rintro e w' ⟨rfl, _, hb⟩
  exact ⟨rfl, h.ps.above h.low hb, h.aft.above h.wB hb⟩
/-- A builder that is laid. -/
theorem PS.build {X : Fx} {w wr : World} {a op : Nat} {s : St} {F : Nat → Prop} (h : PS X wr a op s F) (hA : PAfter X w wr F F) : Bd X w (wr.alloc (.cells #[.pointer none, .slice none 0 0] 171)) a op wr.heap.size wr.heap.size s F [] where
  ps := h.alloc _
  aft := hA.then_below (bel_box _ _)
  low := h.lows
  wB := hA.keeps.size
  Bw := by simp
  bd := .inl ⟨Nat.le_refl _, .slice none 0 0, heap_alloc_new wr _, ⟨by simp [byteCells, enc], .inl ⟨rfl, rfl⟩⟩, by simp [Value.ownBlock]⟩
end Go.Proofs.YtlibdhnlmekmhaaGreatDoor.Rd
end

/- The contract of token: the walk. -/
section
namespace Go.Proofs.YtlibdhnlmekmhaaGreatDoor.Rd
set_option maxRecDepth 100000
open Go.RowKit Go.Lib
open Go.Proofs.YtlibdhnlmekmhaaGreatDoor.Own Go.Proofs.YtlibdhnlmekmhaaGreatDoor.Hp Go.Proofs.YtlibdhnlmekmhaaGreatDoor.Rep Go.Proofs.YtlibdhnlmekmhaaGreatDoor.Get Go.Proofs.YtlibdhnlmekmhaaGreatDoor.Utf Go.Proofs.YtlibdhnlmekmhaaGreatDoor.Build

/-- Between two rounds of token. -/
def TokAt (X : Fx) (w1 wr : World) (op b : Nat) (s : St) (F : Nat → Prop) (u : Value) : Prop :=
  ∃ (a' : Nat) (acc : List Int) (pl : Bool) (r : List Int), u = .bool pl ∧ Bd X w1 wr a' op b b ⟨r, s.ob, s.tb⟩ F acc ∧ tokF false acc pl r = tokF false [] true s.rest ∧ (∀ c ∈ acc, isC c) ∧ (acc = [] → r = s.rest) ∧ acc.length + r.length ≤ X.l.length
theorem dot_iff {acc : List Int} (hc : ∀ c ∈ acc, isC c) : strOf (enc acc) = ⟨#[46]⟩ ↔ acc = [46] := by
  constructor
  · intro h
    have h1 : enc acc = [46] := by
      have := congrArg (fun s : ByteArray => s.data.toList) h
      simpa [strOf_list] using this
    have h2 := runes_enc_all acc hc
    rw [h1] at h2
    rw [← h2]
    rfl
  · rintro rfl
    rfl
theorem tok_ends {acc : List Int} {pl : Bool} {r : List Int} (h : endsB r = true) : tokF false acc pl r = some (acc, pl, r) := by
  cases r with
  | nil => rfl
  | cons c r =>
    have hd : delimB c = true := h
    rw [tokF, if_pos hd]
/-- What stands behind the characters of a token. -/
structure TokEnd (X : Fx) (w w1 w2 : World) (a op : Nat) (s : St) (F : Nat → Prop) : Prop where
  ps : PS X w2 a op s F
  aft : PAfter X w w2 F F
  mine : Mine X w F w.heap.size
  box : Blk w2 w.heap.size #[.int .i64 0, .int .i64 0] 28
theorem TokEnd.later {X : Fx} {w w1 w2 w3 : World} {a op : Nat} {s : St} {F : Nat → Prop} (h : TokEnd X w w1 w2 a op s F) (hb : Below w2.heap.size w2 w3) : TokEnd X w w1 w3 a op s F := ⟨h.ps.later hb, h.aft.then_below hb, h.mine, h.box.below hb⟩
theorem TokEnd.fin {X : Fx} {w w1 w2 : World} {a op : Nat} {s : St} {F : Nat → Prop} (h : TokEnd X w w1 w2 a op s F) (x y : Value) : PS X ((w2.setCell ⟨w.heap.size, 0, none⟩ x).setCell ⟨w.heap.size, 1, none⟩ y) a op s F ∧ PAfter X w ((w2.setCell ⟨w.heap.size, 0, none⟩ x).setCell ⟨w.heap.size, 1, none⟩ y) F F :=
  h.ps.put2 h.mine h.aft (Nat.le_refl _) x y

set_option maxHeartbeats 4000000 in
theorem PS.token {X : Fx} {w : World} {a op : Nat} {s : St} {F : Nat → Prop} (h : PS X w a op s F) (hX : X.Ok) {c0 : Int} {r0 : List Int} (hr : s.rest = c0 :: r0) (hd : delimB c0 = false) :
    Calls Tryz.prog 132 #[pptr X.p] w (Out X w op F retW (tokenG s)) := by
  obtain ⟨R, hR⟩ : ∃ R, tokenG s = R := ⟨_, rfl⟩
  rw [hR]
  have h1 := h.alloc wbox0
  have hbd := (h1.build (PAfter.refl X _ F))
  have hpos := h.pos
  have hl0 : s.rest.length ≤ X.l.length := by have := h.n; omega
  obtain ⟨w1, hw1⟩ : ∃ w1, w1 = w.alloc wbox0 := ⟨_, rfl⟩
  have hM := h.mine (Nat.le_refl _)
  have hA1 : PAfter X w w1 F F := by rw [hw1]; exact .of_below (bel_box _ _)
  have hB1 : Blk w1 w.heap.size #[.int .i64 0, .int .i64 0] 28 := by rw [hw1]; exact Blk.new w _ _
  have hz1 : w1.heap.size = w.heap.size + 1 := by rw [hw1]; simp
  obtain ⟨_, _, _, c3, _, _⟩ := Blk.six h1.blk
  rw [← hw1] at hbd
  have HT0 : Hid (TokAt X w1 (w1.alloc (.cells #[.pointer none, .slice none 0 0] 171)) op (w.heap.size + 1) s F (.bool true)) :=
    ⟨a, [], true, s.rest, rfl, by rw [← hz1]; exact hbd, rfl, by simp, fun _ => rfl, by simpa using hl0⟩
  have HX := Lib.hid hX
  have HR := Lib.hid hR
  have HM := Lib.hid hM
  have HA1 := Lib.hid hA1
  have HB1 := Lib.hid hB1
  have HPos := Lib.hid hpos
  have HRest := Lib.hid hr
  have HD := Lib.hid hd
  have HW1 := Lib.hid hw1
  have HZ1 := Lib.hid hz1
  obtain ⟨n, hn⟩ : ∃ n, w.heap.size = n := ⟨_, rfl⟩
  rw [hn] at HT0 HM HB1 HZ1
  have HN := Lib.hid hn
  clear h h1 hbd hpos hl0 hM hA1 hB1 hz1 hr hd hX hR
  go_enter Tryz.func132, Tryz.ntmps132
  go_wp2_with fail
  rw [← hw1]
  have hn2 : w1.heap.size = n + 1 := HZ1.out
  try simp only [hn, hn2]
  clear hn hn2 hw1 c3
  go_loopw [4] (fun u wr => TokAt X w1 wr op (n + 1) s F u) (fun _ wr => X.l.length - atOf wr X.p)
  case atStart => exact HT0.out
  case round =>
    obtain ⟨a1, acc, pl, r, rfl, hB, ht, hc, hne, hlen⟩ := hrel
    have hs := HX.out.short
    have hend := hB.ps.ends HX.out 0 (by omega) (a1 : Int) (by omega)
    rw [List.drop_zero] at hend
    obtain ⟨_, _, _, c3, _, _⟩ := Blk.six hB.ps.blk
    have HP1 := Lib.hid hB.ps.atIs
    cases hex : endsB r with
    | false =>
      simp only [hex] at hend
      have HE := Lib.hid hend
      cases r with
      | nil => cases hex
      | cons c r =>
        have hcd : delimB c = false := hex
        have hcc : isC c := HX.out.chars c (List.mem_of_mem_drop (by rw [hB.ps.at_]; simp))
        have HTk := Lib.hid (hB.ps.take HX.out rfl)
        have hal : acc.length ≤ 1000000 := by simp at hlen; omega
        by_cases e92 : c = 92
        · subst e92
          cases r with
          | nil =>
            have HR2 : Hid (R = .err 5 0 s.ob s.tb) := by
              show _ = _
              rw [← HR.out]
              unfold tokenG
              rw [← ht]
              rfl
            have HW := Lib.hid (fun w2 (hP : PS X w2 (a1 + 1) op ⟨[], s.ob, s.tb⟩ F) => hP.takeEnd HX.out rfl)
            have HB := Lib.hid hB
            clear hend ht hc hne hlen hB hcc hcd hal hs
            go_wp2_with (first
              | (go_at_call 169; refine HE.out.mono ?_; rintro e w' ⟨rfl, rfl⟩))
            refine HTk.out.mono ?_
            rintro e w2 ⟨rfl, hP2, hA2⟩
            have HP2 := Lib.hid (And.intro hP2 hA2)
            clear hP2 hA2 c3
            go_wp2_with fail
            refine (HW.out _ HP2.out.1).mono ?_
            rintro e w3 ⟨rfl, rfl⟩
            unfold faultE
            go_wp2_with fail
            refine ⟨rfl, ?_⟩
            rw [HR2.out]
            exact ⟨rfl, F, HP2.out.1.ht, (HA1.out.trans HB.out.aft).trans HP2.out.2⟩
          | cons d r =>
            have hcd2 : isC d := HX.out.chars d (List.mem_of_mem_drop (by rw [hB.ps.at_]; simp))
            obtain ⟨q0, q1, _⟩ := hcd2
            have HW := Lib.hid (fun w2 (hP : PS X w2 (a1 + 1) op ⟨d :: r, s.ob, s.tb⟩ F) => hP.take HX.out rfl)
            have HWr := Lib.hid (fun w3 (hP : Bd X w1 w3 (a1 + 1 + 1) op (n + 1) (n + 1) ⟨r, s.ob, s.tb⟩ F acc) => hP.write d (HX.out.chars d (List.mem_of_mem_drop (by rw [hB.ps.at_]; simp))) hal)
            have HF := Lib.hid (fun w4 (hP : Bd X w1 w4 (a1 + 1 + 1) op (n + 1) (n + 1) ⟨r, s.ob, s.tb⟩ F (acc ++ [d])) => show TokAt X w1 w4 op (n + 1) s F (.bool false) from ⟨a1 + 1 + 1, acc ++ [d], false, r, rfl, hP, by rw [← ht, tokF.eq_def false acc pl (92 :: d :: r)]; simp only; rw [if_neg (by decide)]; simp only [if_true]; rw [tokF.eq_def true], fun x hx => by
              rcases List.mem_append.1 hx with hx | hx
              · exact hc x hx
              · simp at hx; subst hx; exact HX.out.chars x (List.mem_of_mem_drop (by rw [hB.ps.at_]; simp)), fun e => by simp at e, by simp at hlen ⊢; omega⟩)
            have HB := Lib.hid hB
            have HLe : Hid (a1 + 1 + 1 ≤ X.l.length) := by
              have := hB.ps.n
              show _ ≤ _
              simp at this
              omega
            clear hend ht hc hne hlen hB hcc hcd hal hs
            go_wp2_with (first
              | (go_at_call 169; refine HE.out.mono ?_; rintro e w' ⟨rfl, rfl⟩))
            refine HTk.out.mono ?_
            rintro e w2 ⟨rfl, hP2, hA2⟩
            have HP2 := Lib.hid (And.intro hP2 hA2)
            clear hP2 hA2 c3
            go_wp2_with fail
            refine (HW.out _ HP2.out.1).mono ?_
            rintro e w3 ⟨rfl, hP3, hA3⟩
            have HP3 := Lib.hid (HB.out.act hP3 (HP2.out.2.trans hA3))
            clear hP3 hA3
            go_wp2_with fail
            refine (HWr.out _ HP3.out).mono ?_
            rintro e w4 ⟨⟨v, rfl⟩, hB4⟩
            have HB4 := Lib.hid hB4
            clear hB4
            go_wp2_with fail
            go_roundw
            case rel => exact HF.out _ HB4.out
            case measure => have h1 := HP1.out; have h2 := HB4.out.ps.atIs; have h3 := HLe.out; rw [h1, h2]; omega
        · have n92 : (c == 92) = false := by simpa using e92
          obtain ⟨q0, q1, _⟩ := hcc
          have HWr := Lib.hid (fun w3 (hP : Bd X w1 w3 (a1 + 1) op (n + 1) (n + 1) ⟨r, s.ob, s.tb⟩ F acc) => hP.write c (HX.out.chars c (List.mem_of_mem_drop (by rw [hB.ps.at_]; simp))) hal)
          have HF := Lib.hid (fun w4 (hP : Bd X w1 w4 (a1 + 1) op (n + 1) (n + 1) ⟨r, s.ob, s.tb⟩ F (acc ++ [c])) => show TokAt X w1 w4 op (n + 1) s F (.bool pl) from ⟨a1 + 1, acc ++ [c], pl, r, rfl, hP, by rw [← ht, tokF.eq_def false acc pl (c :: r)]; simp only; rw [if_neg (by simp [hcd]), if_neg e92], fun x hx => by
            rcases List.mem_append.1 hx with hx | hx
            · exact hc x hx
            · simp at hx; subst hx; exact HX.out.chars x (List.mem_of_mem_drop (by rw [hB.ps.at_]; simp)), fun e => by simp at e, by simp at hlen ⊢; omega⟩)
          have HB := Lib.hid hB
          have HLe : Hid (a1 + 1 ≤ X.l.length) := by
            have := hB.ps.n
            show _ ≤ _
            simp at this
            omega
          clear hend ht hc hne hlen hB hcd hal hs e92
          go_wp2_with (first
            | (go_at_call 169; refine HE.out.mono ?_; rintro e w' ⟨rfl, rfl⟩))
          refine HTk.out.mono ?_
          rintro e w2 ⟨rfl, hP2, hA2⟩
          have HP3 := Lib.hid (HB.out.act hP2 hA2)
          clear hP2 hA2 c3
          go_wp2_with fail
          refine (HWr.out _ HP3.out).mono ?_
          rintro e w4 ⟨⟨v, rfl⟩, hB4⟩
          have HB4 := Lib.hid hB4
          clear hB4
          go_wp2_with fail
          go_roundw
          case rel => exact HF.out _ HB4.out
          case measure => have h1 := HP1.out; have h2 := HB4.out.ps.atIs; have h3 := HLe.out; rw [h1, h2]; omega
    | true =>
      simp only [hex] at hend
      have HE := Lib.hid hend
      have hacc : acc ≠ [] := fun e => by
        have h1 := hne e
        rw [h1, HRest.out] at hex
        rw [show endsB (c0 :: r0) = delimB c0 from rfl, HD.out] at hex
        cases hex
      have hR2 : R = (if pl = true ∧ acc = [46] then .err 5 s.rest.length s.ob s.tb else if pl = true ∧ numB acc = true then intG s acc r else symG s acc r) := by
        rw [← HR.out]
        unfold tokenG
        rw [← ht, tok_ends hex]
      have hal : acc.length ≤ 1000000 := by omega
      have HTE : Hid (∀ w2, PS X w2 a1 op ⟨r, s.ob, s.tb⟩ F ∧ PAfter X w1 w2 F F → TokEnd X w w1 w2 a1 op ⟨r, s.ob, s.tb⟩ F) := fun w2 hh => ⟨hh.1, HA1.out.trans hh.2, by rw [HN.out]; exact HM.out, by rw [HN.out]; exact (hh.2.blk HB1.out HM.out.f HM.out.p).1⟩
      have hst := hB.string
      obtain ⟨S, hS⟩ : ∃ S, strOf (enc acc) = S := ⟨_, rfl⟩
      rw [hS] at hst
      have HSt := Lib.hid hst
      have HPo := Lib.hid HPos.out
      by_cases hpl : pl = true
      · subst hpl
        by_cases h46 : acc = [46]
        · subst h46
          rw [if_pos ⟨rfl, rfl⟩] at hR2
          subst hR2
          have hS2 : S = ⟨#[46]⟩ := by rw [← hS]; rfl
          subst hS2
          clear hend ht hc hne hlen hB hacc hal hst hS hex hs
          go_wp2_with (first
            | (go_at_call 169; refine HE.out.mono ?_; rintro e w' ⟨rfl, rfl⟩))
          refine HSt.out.mono ?_
          rintro e w2 ⟨rfl, hw2⟩
          have HW2 := Lib.hid (HTE.out w2 hw2)
          clear hw2 c3
          go_wp2_with fail
          exact ⟨rfl, by rw [HPo.out]; rfl, F, HW2.out.ps.ht, HW2.out.aft⟩
        · rw [if_neg (fun e => h46 e.2)] at hR2
          have hS46 : S ≠ ⟨#[46]⟩ := fun e => h46 ((dot_iff hc).1 (hS.trans e))
          have hnum := numeral_any acc hacc hc hal
          rw [hS] at hnum
          have q46 : (S.toList == [46]) = false := by
            rw [beq_eq_false_iff_ne]
            exact fun e => hS46 (by
              rw [toList_data] at e
              cases S
              rename_i d
              have : d.toList = [46] := e
              congr
              apply Array.toList_inj.1
              exact this)
          cases hnb : numB acc with
          | true =>
            rw [hnb] at hnum
            have HNu := Lib.hid hnum
            rw [if_pos ⟨rfl, hnb⟩] at hR2
            have hint := fun W (hE : ErrVar W) => integer_any acc hnb hc hal a W hE
            rw [hS] at hint
            unfold intG at hR2
            by_cases hin : -2305843009213693952 ≤ intV acc ∧ intV acc ≤ 2305843009213693951
            · rw [if_pos hin] at hR2
              unfold intE at hint
              rw [if_pos hin] at hint
              obtain ⟨v, hv⟩ : ∃ v, intV acc = v := ⟨_, rfl⟩
              rw [hv] at hint hR2
              have HInt := Lib.hid hint
              subst hR2
              clear hend ht hc hne hlen hB hacc hal hst hS hex hs hS46 hnum hnb h46 hin hv hint
              go_wp2_with (first
                | (go_at_call 169; refine HE.out.mono ?_; rintro e w' ⟨rfl, rfl⟩))
              refine HSt.out.mono ?_
              rintro e w2 ⟨rfl, hw2⟩
              have HW2 := Lib.hid (HTE.out w2 hw2)
              clear hw2 c3
              go_wp2_with fail
              refine (HNu.out _).mono ?_
              rintro e w3 ⟨rfl, hb3⟩
              have HW3 := Lib.hid (HW2.out.later hb3)
              clear hb3
              go_wp2_with fail
              refine (HInt.out _ (HW3.out.ps.sys HX.out).err).mono ?_
              rintro e w4 ⟨rfl, hb4⟩
              have hw4 := HW3.out.later hb4
              obtain ⟨b0, b1, e0, e1⟩ := hw4.box.two
              rw [HN.out] at b0 b1 e0 e1
              have HW4 := Lib.hid hw4
              clear hb4 hw4
              go_wp2_with fail
              have hf := HW4.out.fin (.int .i64 0) (.int .i64 v)
              rw [HN.out] at hf
              refine bodyPost_ret (v := wd (0, v)) (by simp [results, Tryz.results132, go_sem, b0, b1]) rfl ⟨a1, F, rfl, hf.1, hf.2⟩
            · rw [if_neg hin] at hR2
              unfold intE at hint
              rw [if_neg hin] at hint
              have HInt := Lib.hid hint
              subst hR2
              clear hend ht hc hne hlen hB hacc hal hst hS hex hs hS46 hnum hnb h46 hin hint
              go_wp2_with (first
                | (go_at_call 169; refine HE.out.mono ?_; rintro e w' ⟨rfl, rfl⟩))
              refine HSt.out.mono ?_
              rintro e w2 ⟨rfl, hw2⟩
              have HW2 := Lib.hid (HTE.out w2 hw2)
              clear hw2 c3
              go_wp2_with fail
              refine (HNu.out _).mono ?_
              rintro e w3 ⟨rfl, hb3⟩
              have HW3 := Lib.hid (HW2.out.later hb3)
              clear hb3
              go_wp2_with fail
              refine (HInt.out _ (HW3.out.ps.sys HX.out).err).mono ?_
              rintro e w4 ⟨rfl, hb4⟩
              have HW4 := Lib.hid (HW3.out.later hb4)
              clear hb4
              unfold faultE
              go_wp2_with fail
              exact ⟨rfl, by rw [HPo.out]; rfl, F, HW4.out.ps.ht, HW4.out.aft⟩
          | false =>
            rw [hnb] at hnum
            have HNu := Lib.hid hnum
            rw [if_neg (fun e => by rw [hnb] at e; cases e.2)] at hR2
            have hlen4 := enc_len4 acc
            have hsz : S.size ≤ 4611686018427387904 := by rw [← hS, strOf_size]; omega
            have HI := Lib.hid (fun W (hP : PS X W a1 op ⟨r, s.ob, s.tb⟩ F) => hP.intern HX.out S hsz s.rest.length a HPo.out.symm)
            rw [symG_intern, hS] at hR2
            have HR2 := Lib.hid hR2
            clear hend ht hc hne hlen hB hacc hal hst hS hex hs hS46 hnum hnb h46 hlen4 hsz hR2
            go_wp2_with (first
              | (go_at_call 169; refine HE.out.mono ?_; rintro e w' ⟨rfl, rfl⟩))
            refine HSt.out.mono ?_
            rintro e w2 ⟨rfl, hw2⟩
            have HW2 := Lib.hid (HTE.out w2 hw2)
            clear hw2 c3
            go_wp2_with fail
            refine (HNu.out _).mono ?_
            rintro e w3 ⟨rfl, hb3⟩
            have HW3 := Lib.hid (HW2.out.later hb3)
            clear hb3
            go_wp2_with fail
            refine (HI.out _ HW3.out.ps).mono ?_
            intro e w4 ho
            rcases ho.tail HW3.out.aft HW3.out.mine (Nat.le_refl _) HW3.out.box with ⟨x, rfl, hB4, hO⟩ | ⟨cc, kk, rfl, hO⟩
            · rw [← HR2.out] at hO
              rw [HN.out] at hB4 hO
              obtain ⟨b0, b1, e0, e1⟩ := hB4.two
              have HO := Lib.hid hO
              clear hO hB4 ho
              go_wp2_with fail
              exact bodyPost_ret (v := wd x) (by simp [results, Tryz.results132, go_sem, b0, b1]) rfl HO.out
            · rw [← HR2.out] at hO
              have HO := Lib.hid hO
              clear hO ho
              go_wp2_with fail
              exact ⟨rfl, HO.out⟩
      · rw [if_neg (fun e => hpl e.1), if_neg (fun e => hpl e.1)] at hR2
        have hpl2 : pl = false := by simpa using hpl
        subst hpl2
        have hlen4 := enc_len4 acc
        have hsz : S.size ≤ 4611686018427387904 := by rw [← hS, strOf_size]; omega
        have HI := Lib.hid (fun W (hP : PS X W a1 op ⟨r, s.ob, s.tb⟩ F) => hP.intern HX.out S hsz s.rest.length a HPo.out.symm)
        rw [symG_intern, hS] at hR2
        have HR2 := Lib.hid hR2
        clear hend ht hc hne hlen hB hacc hal hst hS hex hs hlen4 hsz hR2 hpl
        go_wp2_with (first
          | (go_at_call 169; refine HE.out.mono ?_; rintro e w' ⟨rfl, rfl⟩))
        refine HSt.out.mono ?_
        rintro e w3 ⟨rfl, hw2⟩
        have HW3 := Lib.hid (HTE.out w3 hw2)
        clear hw2 c3
        go_wp2_with fail
        refine (HI.out _ HW3.out.ps).mono ?_
        intro e w4 ho
        rcases ho.tail HW3.out.aft HW3.out.mine (Nat.le_refl _) HW3.out.box with ⟨x, rfl, hB4, hO⟩ | ⟨cc, kk, rfl, hO⟩
        · rw [← HR2.out] at hO
          rw [HN.out] at hB4 hO
          obtain ⟨b0, b1, e0, e1⟩ := hB4.two
          have HO := Lib.hid hO
          clear hO hB4 ho
          go_wp2_with fail
          exact bodyPost_ret (v := wd x) (by simp [results, Tryz.results132, go_sem, b0, b1]) rfl HO.out
        · rw [← HR2.out] at hO
          have HO := Lib.hid hO
          clear hO ho
          go_wp2_with fail
          exact ⟨rfl, HO.out⟩
end Go.Proofs.YtlibdhnlmekmhaaGreatDoor.Rd
end

/- The contract of ValidRune of this translation, laid at its numbers. -/
section
namespace Go.Proofs
open Go.Shelf
def Tryz.lays119_ren : Go.Shelf.Ren := ⟨fun | 119 => 244 | n => n, fun | 21 => 21 | 4 => 4 | n => n, fun | n => n⟩
theorem Tryz.lays119 : Go.Proofs.Lays.n119 Tryz.prog Tryz.lays119_ren := {
  mixed := by kernel_rfl
  f119 := Tryz.func244.trans (congrArg some (by kernel_rfl))
  t4 := Tryz.underlying4
  a4 := Tryz.isAgg4
  z4 := Tryz.sizeOf4
  v4 := Tryz.zeroValue4
  t21 := Tryz.underlying21
  a21 := Tryz.isAgg21
  z21 := Tryz.sizeOf21
  v21 := Tryz.zeroValue21 }
theorem Tryz.utf8_ValidRune (r : Int) (w : World) :
    Calls Tryz.prog 244 #[.int .i32 r] w fun e w' => e = .returned (.bool (Lib.validRune r)) ∧ w' = w := Any.utf8_ValidRune Tryz.lays119 r w
end Go.Proofs
end
