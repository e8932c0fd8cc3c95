/- A row of words beside a parser. | Numerals: their characters, their bytes, and what strconv.Atoi and strings.Trim make of them. | The contracts of the string builder's copyCheck and WriteRune in this translation. | The contracts of numeral, integer, intern, token. -/
import Derived.LoopTactic
import Derived.Deep.RegionLaw
import Derived.Lib.AtoiAllCases
import Derived.Lib.SlTrimSet
import Derived.Test.YtlibdhnlmekmhaaGreatDoorRows
import Derived.Shelf.Strings.BuilderRune
import Derived.Lib.Hide
import Derived.Shelf.Strings.SlTrimAscii
import Derived.Test.YtlibdhnlmekmhaaGreatDoorMg03
import Derived.Test.YtlibdhnlmekmhaaGreatDoorMg04
import Derived.Test.YtlibdhnlmekmhaaGreatDoorMg14
import Derived.Test.YtlibdhnlmekmhaaGreatDoorMg15
import Derived.Test.YtlibdhnlmekmhaaGreatDoorMg18
import Derived.Test.YtlibdhnlmekmhaaGreatDoorMg19
/- A row of words beside a parser. -/
section
namespace Go.Proofs.YtlibdhnlmekmhaaGreatDoor.Rd
set_option maxRecDepth 100000
open Go.RowKit
open Go.Proofs.YtlibdhnlmekmhaaGreatDoor.Own Go.Proofs.YtlibdhnlmekmhaaGreatDoor.Hp Go.Proofs.YtlibdhnlmekmhaaGreatDoor.Rep Go.Proofs.YtlibdhnlmekmhaaGreatDoor.Get Go.Proofs.YtlibdhnlmekmhaaGreatDoor.Add Go.Proofs.YtlibdhnlmekmhaaGreatDoor.Make Go.Proofs.YtlibdhnlmekmhaaGreatDoor.Utf Go.Proofs.YtlibdhnlmekmhaaGreatDoor.Strs Go.Proofs.YtlibdhnlmekmhaaGreatDoor.Clone

theorem wcells_app (a b : List Wd) : wcells (a ++ b) = wcells a ++ wcells b := by
  induction a with
  | nil => rfl
  | cons x a ih => simp [wcells, ih]
/-- Two cells of a word that was built. -/
theorem new_cells (w : World) (x y : Value) (t : TypeId) : ∀ j u, [x, y][j]? = some u → (w.alloc (.cells #[x, y] t)).cell? ((⟨w.heap.size, 0, none⟩ : Addr).add j) = some u := by
  intro j u hj
  have h := Blk.new w #[x, y] t
  rcases j with _ | _ | j
  · simp at hj; subst hj; exact h.cell 0 _ rfl
  · simp at hj; subst hj; exact h.cell 1 _ rfl
  · simp at hj
theorem new_one (a b : Int) : ∀ u ∈ [Value.int .i64 a, .int .i64 b], u.oneCell' = true := by
  intro u hu
  simp at hu
  rcases hu with rfl | rfl <;> rfl
/-- A parser, and a row of words that the call has made since w0. -/
structure PR (X : Fx) (w0 wr : World) (a op : Nat) (s : St) (F0 F : Nat → Prop) (v : Value) (l : List Wd) : Prop where
  ps : PS X wr a op s F
  aft : PAfter X w0 wr F0 F
  row : wr.ownsRow w0.heap.size 28 2 v l.length (wcells l)
  mine : ∀ g, v.ownBlock = some g → Mine X wr F g
theorem PR.start {X : Fx} {w0 : World} {a op : Nat} {s : St} {F : Nat → Prop} (h : PS X w0 a op s F) : PR X w0 w0 a op s F F (.slice none 0 0) [] :=
  ⟨h, .refl _ _ _, World.ownsRow_nil _ _ _ _, fun g hg => by cases hg⟩
theorem PR.later {X : Fx} {w0 wr W : World} {a op : Nat} {s : St} {F0 F : Nat → Prop} {v : Value} {l : List Wd} (h : PR X w0 wr a op s F0 F v l) (hb : Below wr.heap.size wr W) : PR X w0 W a op s F0 F v l :=
  ⟨h.ps.later hb, h.aft.then_below hb, owns_below h.row hb, fun g hg => ⟨(h.mine g hg).f, (h.mine g hg).p, (h.mine g hg).g, (h.mine g hg).m, (h.mine g hg).low⟩⟩
/-- A method that reads. -/
theorem PR.act {X : Fx} {w0 wr W : World} {a a' op op' : Nat} {s s' : St} {F0 F F' : Nat → Prop} {v : Value} {l : List Wd} (h : PR X w0 wr a op s F0 F v l) (hP : PS X W a' op' s' F') (hA : PAfter X wr W F F') : PR X w0 W a' op' s' F0 F' v l where
  ps := hP
  aft := h.aft.trans hA
  row := owns_keeps h.row hA.keeps fun g hg e => e.elim (h.mine g hg).f (h.mine g hg).p
  mine := fun g hg => by
    have := (h.mine g hg).later hA (h.row.lt g hg).2
    exact ⟨this.f, this.p, this.g, this.m, this.low⟩
theorem PR.push {X : Fx} {w0 wr w' : World} {a op c' : Nat} {s : St} {F0 F : Nat → Prop} {v : Value} {l : List Wd} {A' : Option Addr} {x : Wd} (h : PR X w0 wr a op s F0 F v l)
    (hap : Appended wr w' w0.heap.size 28 2 v (.slice A' (l.length + 1) c') (l.length + 1) (wcells l ++ [.int .i64 x.1, .int .i64 x.2])) : PR X w0 w' a op s F0 F (.slice A' (l.length + 1) c') (l ++ [x]) := by
  have hk : Keeps (fun b => v.ownBlock = some b) wr w' := (Keeps.refl _ wr).grown hap.grown fun k hk _ => hk
  refine ⟨h.ps.keeps hk fun b hb => ⟨(h.mine b hb).f, (h.mine b hb).p, (h.mine b hb).g, (h.mine b hb).m, (h.mine b hb).low⟩, ⟨h.aft.keeps.then hk fun b hlt e => by have := (h.row.lt b e).1; omega, h.aft.grow⟩, ?_, fun b hb => ?_⟩
  · have := hap.row
    rw [wcells_app, List.length_append]
    exact this
  · rcases hap.place b hb with e | e
    · exact ⟨(h.mine b e).f, (h.mine b e).p, (h.mine b e).g, (h.mine b e).m, (h.mine b e).low⟩
    · have := h.ps.mine (b := b) (by omega)
      exact ⟨this.f, this.p, this.g, this.m, this.low⟩
theorem PR.len {X : Fx} {w0 wr : World} {a op : Nat} {s : St} {F0 F : Nat → Prop} {v : Value} {l : List Wd} (h : PR X w0 wr a op s F0 F v l) : ∃ A c, v = .slice A l.length c := by
  rcases h.row.2 with ⟨rfl, h2⟩ | ⟨g, cap, cur, rfl, _⟩
  · exact ⟨none, 0, by rw [h2]⟩
  · exact ⟨_, _, rfl⟩

/-- Forms are read right where at most so much is looked at. -/
def FormOk (X : Fx) (k : Nat) : Prop := ∀ o N j, j ≤ k → 2 * N + 1 ≤ j → Runs X 68 o N retW (formM X.lim j o)
theorem eachM_skip (lim k o : Nat) (acc : List Wd) (s : St) : eachM lim k o acc ⟨skipF false s.rest, s.ob, s.tb⟩ = eachM lim k o acc s := by
  cases k with
  | zero => rfl
  | succ k => rw [eachM_succ]; unfold eachG; simp only [skipF_skipF]
theorem elemM_skip (lim k o : Nat) (acc : List Wd) (s : St) : elemM lim k o acc ⟨skipF false s.rest, s.ob, s.tb⟩ = elemM lim k o acc s := by
  cases k with
  | zero => rfl
  | succ k => rw [elemM_succ]; unfold elemG; simp only [skipF_skipF]
end Go.Proofs.YtlibdhnlmekmhaaGreatDoor.Rd
end

/- Numerals: their characters, their bytes, and what strconv.Atoi and strings.Trim make of them. -/
section
namespace Go.Proofs.YtlibdhnlmekmhaaGreatDoor.Rd
open Go.RowKit Go.Lib
open Go.Proofs.YtlibdhnlmekmhaaGreatDoor.Hp Go.Proofs.YtlibdhnlmekmhaaGreatDoor.Utf

theorem enc_one {c : Int} (h0 : 0 ≤ c) (h1 : c ≤ 127) : encodeRune c = [c.toNat.toUInt8] := by
  unfold encodeRune
  rw [encodeRuneZ_one h0 h1]
  rfl
/-- The first byte of a character beyond ASCII. -/
theorem enc_high {c : Int} (hc : isC c) (h : 128 ≤ c) : ∀ b ∈ encodeRune c, 128 ≤ b.toNat := by
  obtain ⟨h0, h1, h2⟩ := hc
  intro b hb
  unfold encodeRune at hb
  obtain ⟨z, hz, rfl⟩ := List.mem_map.1 hb
  have hz2 : 128 ≤ z ∧ z < 256 := by
    by_cases a1 : c ≤ 2047
    · rw [encodeRuneZ_two h a1] at hz
      simp at hz
      omega
    · by_cases a2 : c ≤ 65535
      · rw [encodeRuneZ_three (by omega)] at hz
        simp at hz
        omega
      · rw [encodeRuneZ_four (by omega) h1] at hz
        simp at hz
        omega
  rw [byte_num z (by omega) (by omega)]
  omega
theorem low_byte {c : Int} (h0 : 0 ≤ c) (h1 : c ≤ 127) : (c.toNat.toUInt8).toNat = c.toNat := byte_num c h0 (by omega)
/-- The first byte is ASCII exactly where the first character is. -/
theorem enc_head {c : Int} (hc : isC c) (r : List Int) : ∃ b t, enc (c :: r) = b :: t ∧ ((c ≤ 127 ∧ b = c.toNat.toUInt8 ∧ t = enc r) ∨ (128 ≤ c ∧ 128 ≤ b.toNat)) := by
  rw [enc_cons]
  by_cases h : c ≤ 127
  · rw [enc_one hc.1 h]
    exact ⟨_, _, rfl, .inl ⟨h, rfl, rfl⟩⟩
  · have h2 := enc_high hc (by omega)
    have h3 := (encode_length c).1
    cases he : encodeRune c with
    | nil => rw [he] at h3; simp at h3
    | cons b t =>
      rw [he] at h2
      exact ⟨b, t ++ enc r, rfl, .inr ⟨by omega, h2 b (by simp)⟩⟩
def digitsB : List UInt8 := [48, 49, 50, 51, 52, 53, 54, 55, 56, 57]
theorem in_digits (b : UInt8) : digitsB.contains b = true ↔ 48 ≤ b.toNat ∧ b.toNat ≤ 57 := by
  unfold digitsB
  simp only [List.contains_cons, List.contains_nil, Bool.or_false, Bool.or_eq_true, beq_iff_eq]
  constructor
  · rintro (rfl | rfl | rfl | rfl | rfl | rfl | rfl | rfl | rfl | rfl) <;> decide
  · intro h
    have e : ∀ n : UInt8, b.toNat = n.toNat → b = n := fun n hn => UInt8.toNat_inj.1 hn
    have : b.toNat = 48 ∨ b.toNat = 49 ∨ b.toNat = 50 ∨ b.toNat = 51 ∨ b.toNat = 52 ∨ b.toNat = 53 ∨ b.toNat = 54 ∨ b.toNat = 55 ∨ b.toNat = 56 ∨ b.toNat = 57 := by omega
    rcases this with h | h | h | h | h | h | h | h | h | h
    · exact .inl (e 48 h)
    · exact .inr (.inl (e 49 h))
    · exact .inr (.inr (.inl (e 50 h)))
    · exact .inr (.inr (.inr (.inl (e 51 h))))
    · exact .inr (.inr (.inr (.inr (.inl (e 52 h)))))
    · exact .inr (.inr (.inr (.inr (.inr (.inl (e 53 h))))))
    · exact .inr (.inr (.inr (.inr (.inr (.inr (.inl (e 54 h)))))))
    · exact .inr (.inr (.inr (.inr (.inr (.inr (.inr (.inl (e 55 h))))))))
    · exact .inr (.inr (.inr (.inr (.inr (.inr (.inr (.inr (.inl (e 56 h)))))))))
    · exact .inr (.inr (.inr (.inr (.inr (.inr (.inr (.inr (.inr (e 57 h)))))))))
theorem digitB_iff (c : Int) : digitB c = true ↔ 48 ≤ c ∧ c ≤ 57 := by simp [digitB]
/-- All bytes are digits exactly where all characters are. -/
theorem all_digits : ∀ (l : List Int), (∀ c ∈ l, isC c) → ((enc l).all (digitsB.contains ·) = l.all digitB)
  | [], _ => rfl
  | c :: r, h => by
    have ih := all_digits r fun x hx => h x (List.mem_cons_of_mem _ hx)
    have hc := h c (by simp)
    rw [enc_cons, List.all_append, ih, List.all_cons]
    congr 1
    by_cases h1 : c ≤ 127
    · rw [enc_one hc.1 h1, Bool.eq_iff_iff]
      simp only [List.all_cons, List.all_nil, Bool.and_true]
      rw [in_digits, digitB_iff, low_byte hc.1 h1]
      have := hc.1
      omega
    · have h2 := enc_high hc (by omega)
      have e1 : digitB c = false := by
        rw [Bool.eq_false_iff]
        intro e
        have := (digitB_iff c).1 e
        omega
      rw [e1, Bool.eq_false_iff]
      intro e
      have h3 := (encode_length c).1
      cases he : encodeRune c with
      | nil => rw [he] at h3; simp at h3
      | cons b t =>
        rw [he] at e h2
        have h4 := (in_digits b).1 (List.all_eq_true.1 e b (by simp))
        have := h2 b (by simp)
        omega
theorem dropWhile_nil {α : Type} (p : α → Bool) : ∀ l : List α, l.dropWhile p = [] ↔ l.all p = true
  | [] => by simp
  | c :: r => by
    rw [List.dropWhile_cons, List.all_cons]
    split
    · rename_i e
      rw [dropWhile_nil p r, e]
      simp
    · rename_i e
      simp [e]
theorem trimS_nil (l cs : List UInt8) : trimS l cs = [] ↔ l.all (cs.contains ·) = true := by
  unfold trimS trimLeftS trimRightS
  rw [dropWhile_nil, List.all_reverse]
  constructor
  · intro h
    have h2 : ∀ m : List UInt8, (m.dropWhile (cs.contains ·)).all (cs.contains ·) = true → m.all (cs.contains ·) = true := by
      intro m
      induction m with
      | nil => simp
      | cons c r ih =>
        intro hm
        rw [List.dropWhile_cons] at hm
        split at hm
        · rename_i e
          rw [List.all_cons, e, ih hm]
          rfl
        · exact hm
    have := h2 _ h
    rwa [List.all_reverse] at this
  · intro h
    have h3 : l.reverse.all (cs.contains ·) = true := by rw [List.all_reverse]; exact h
    rw [(dropWhile_nil _ _).2 h3]
    rfl

/-- The value of digits behind a. -/
def valFrom (a : Int) (l : List Int) : Int := l.foldl (fun n c => 10 * n + (c - 48)) a
theorem valFrom_ge : ∀ (l : List Int) (a : Int), 0 ≤ a → l.all digitB = true → a ≤ valFrom a l
  | [], a, _, _ => Int.le_refl _
  | c :: r, a, ha, h => by
    rw [List.all_cons, Bool.and_eq_true] at h
    have hd := (digitB_iff c).1 h.1
    have := valFrom_ge r (10 * a + (c - 48)) (by omega) h.2
    unfold valFrom at this ⊢
    rw [List.foldl_cons]
    omega
/-- How digits are parsed. -/
theorem parse_digits : ∀ (l : List Int) (a : Nat), a < 18446744073709551616 → l.all digitB = true → (parseUint10 a (enc l) = .ok (valFrom a l).toNat ∧ valFrom a l < 18446744073709551616) ∨ (parseUint10 a (enc l) = .range ∧ 18446744073709551616 ≤ valFrom a l)
  | [], a, ha, _ => .inl ⟨by simp [enc, parseUint10, valFrom], by simp [valFrom]; omega⟩
  | c :: r, a, ha, h => by
    rw [List.all_cons, Bool.and_eq_true] at h
    have hd := (digitB_iff c).1 h.1
    rw [enc_cons, enc_one (by omega) (by omega)]
    rw [List.singleton_append, parseUint10, low_byte (by omega) (by omega), if_pos (by omega)]
    have hv : valFrom a (c :: r) = valFrom (10 * a + (c - 48)) r := rfl
    have hge := valFrom_ge r (10 * a + (c - 48)) (by omega) h.2
    rw [hv]
    split
    · exact .inr ⟨rfl, by omega⟩
    · split
      · exact .inr ⟨rfl, by omega⟩
      · rename_i h1 h2
        have e : ((a * 10 + (c.toNat - 48) : Nat) : Int) = 10 * a + (c - 48) := by omega
        have := parse_digits r (a * 10 + (c.toNat - 48)) (by omega) h.2
        rw [e] at this
        exact this
theorem parseMag_digits {l : List Int} (hne : l ≠ []) (h : l.all digitB = true) : (parseMag (enc l) = .ok (valF l).toNat ∧ 0 ≤ valF l ∧ valF l < 18446744073709551616) ∨ (parseMag (enc l) = .range ∧ 18446744073709551616 ≤ valF l) := by
  unfold parseMag
  have hn : enc l ≠ [] := by
    cases l with
    | nil => exact absurd rfl hne
    | cons c r => rw [enc_cons]; exact encode_ne c _
  rw [if_neg hn]
  have h0 := valFrom_ge l 0 (by omega) h
  rcases parse_digits l 0 (by omega) h with ⟨h1, h2⟩ | ⟨h1, h2⟩
  · exact .inl ⟨h1, h0, h2⟩
  · exact .inr ⟨h1, h2⟩
/-- What Atoi makes of a numeral. -/
theorem atoi_num {l : List Int} (hc : ∀ c ∈ l, isC c) (h : numB l = true) : (atoiAll (enc l) = .ok (intV l)) ∨ (atoiAll (enc l) = .range ∧ ¬ (-2305843009213693952 ≤ intV l ∧ intV l ≤ 2305843009213693951)) := by
  cases l with
  | nil => simp [numB, unsign] at h
  | cons c r =>
    unfold numB at h
    rw [Bool.and_eq_true] at h
    obtain ⟨h1, h2⟩ := h
    have hne : unsign (c :: r) ≠ [] := by
      intro e
      rw [e] at h1
      simp at h1
    have key : ∀ (e : NumEnd Nat) (v : Int), ((e = .ok v.toNat ∧ 0 ≤ v ∧ v < 18446744073709551616) ∨ (e = .range ∧ 18446744073709551616 ≤ v)) →
        ((signless e = .ok v ∨ (signless e = .range ∧ ¬ (-2305843009213693952 ≤ v ∧ v ≤ 2305843009213693951))) ∧ (signed e = .ok (-v) ∨ (signed e = .range ∧ ¬ (-2305843009213693952 ≤ -v ∧ -v ≤ 2305843009213693951)))) := by
      rintro e v (⟨rfl, k0, k1⟩ | ⟨rfl, k1⟩)
      · unfold signless signed
        simp only
        constructor
        · split
          · exact .inr ⟨rfl, by omega⟩
          · exact .inl (by rw [Int.toNat_of_nonneg k0])
        · split
          · exact .inr ⟨rfl, by omega⟩
          · exact .inl (by rw [Int.toNat_of_nonneg k0])
      · exact ⟨.inr ⟨rfl, by omega⟩, .inr ⟨rfl, by omega⟩⟩
    by_cases e43 : c = 43
    · subst e43
      have hu : unsign (43 :: r) = r := by simp [unsign]
      rw [hu] at hne h2
      have hv : intV (43 :: r) = valF r := by unfold intV; rw [hu]; simp
      rw [enc_cons, enc_one (by omega) (by omega), hv]
      have := (key _ _ (parseMag_digits hne h2)).1
      rw [← atoiAll_plus] at this
      exact this
    · by_cases e45 : c = 45
      · subst e45
        have hu : unsign (45 :: r) = r := by simp [unsign]
        rw [hu] at hne h2
        have hv : intV (45 :: r) = -valF r := by unfold intV; rw [hu]; simp
        rw [enc_cons, enc_one (by omega) (by omega), hv]
        have := (key _ _ (parseMag_digits hne h2)).2
        rw [← atoiAll_minus] at this
        exact this
      · have hu : unsign (c :: r) = c :: r := by simp [unsign, e43, e45]
        rw [hu] at hne h2
        have hv : intV (c :: r) = valF (c :: r) := by unfold intV; rw [hu]; simp [e45]
        have hd := (digitB_iff c).1 (List.all_eq_true.1 h2 c (by simp))
        have := (key _ _ (parseMag_digits hne h2)).1
        rw [hv]
        rw [enc_cons, enc_one (by omega) (by omega)] at this ⊢
        rw [List.singleton_append] at this ⊢
        rw [atoiAll_plain _ _ (by rw [low_byte (by omega) (by omega)]; omega) (by rw [low_byte (by omega) (by omega)]; omega)]
        exact this
theorem intV_in {l : List Int} (hc : ∀ c ∈ l, isC c) (h : numB l = true) {v : Int} (hv : atoiAll (enc l) = .ok v) : v = intV l := by
  rcases atoi_num hc h with e | ⟨e, _⟩
  · rw [e] at hv; cases hv; rfl
  · rw [e] at hv; cases hv
end Go.Proofs.YtlibdhnlmekmhaaGreatDoor.Rd
end

/- The contracts of the string builder's copyCheck and WriteRune in this translation. -/
section
namespace Go.Proofs.YtlibdhnlmekmhaaGreatDoor.Build
set_option maxRecDepth 100000
open Go.RowKit Go.Shelf Go.Lib

theorem sizeB : (Tryz.prog.info? 171).map (·.size) = some 2 := by kernel_rfl
theorem liesB : liesAt Tryz.prog Tryz.prog.depth 171 (2 / Tryz.prog.cellsOf 171) 0 171 1 = true := by kernel_rfl

set_option maxHeartbeats 1000000 in
theorem copy_used (b : Nat) (w : World) (h0 : w.cell? ⟨b, 0, none⟩ = some (.pointer (some ⟨b, 0, none⟩))) :
    Calls Tryz.prog 198 #[.pointer (some ⟨b, 0, none⟩)] w fun e w' => e = .returned (.tuple #[]) ∧ w' = w := by
  obtain ⟨j, hj, _⟩ := Option.map_eq_some_iff.1 sizeB
  go_enter Tryz.func198, Tryz.ntmps198
  go_wp2
  rw [Lib.run_neq_ptr_same w _ Tryz.underlying169 hj]
  go_wp2
  go_end0
  exact ⟨rfl, rfl⟩

set_option maxHeartbeats 1000000 in
theorem copy_fresh (b : Nat) (w : World) (h0 : w.cell? ⟨b, 0, none⟩ = some (.pointer none)) (hsh : w.shape? b = some (171, 2)) (hfz : w.frozen? ⟨b, 0, none⟩ = false) :
    Calls Tryz.prog 198 #[.pointer (some ⟨b, 0, none⟩)] w fun e w' => e = .returned (.tuple #[]) ∧ w' = w.setCell ⟨b, 0, none⟩ (.pointer (some ⟨b, 0, none⟩)) := by
  obtain ⟨j, hj, hjs⟩ := Option.map_eq_some_iff.1 sizeB
  go_enter Tryz.func198, Tryz.ntmps198
  go_wp2
  rw [Lib.run_to_unsafe w ⟨b, 0, none⟩ Tryz.underlying169 Tryz.underlying211 hj (by rw [hjs]; decide) hsh (Nat.zero_lt_succ 1)]
  simp only [Result.andThen]
  rw [Oper.upon_value]
  go_wp2
  rw [run_callFunc_extern Tryz.func214 (by kernel_rfl) (by kernel_rfl) (by kernel_rfl) (e := Extern.AbiNoEscape.same) (by kernel_rfl)]
  rw [Lib.run_noEscape]
  simp only [Result.andThen]
  rw [Oper.upon_value]
  go_wp2
  rw [Lib.run_from_unsafe w ⟨b, 0, none⟩ Tryz.underlying211 Tryz.underlying169 hj hsh liesB]
  simp only [Result.andThen]
  rw [Oper.upon_value]
  go_wp2
  go_end0
  exact ⟨rfl, rfl⟩

theorem copy_any (B b : Nat) (bs : List Value) (w : World) (h : Lib.IsBuilderF 171 5 B b bs w) :
    Calls Tryz.prog 198 #[.pointer (some ⟨b, 0, none⟩)] w fun e w' => e = .returned (.tuple #[]) ∧ Lib.BuilderAtF 171 5 B b (.pointer (some ⟨b, 0, none⟩)) bs w' ∧ Below B w w' := by
  rcases h with h | h
  · refine (copy_fresh b w h.cell0 h.shape h.frozen0).mono ?_
    rintro e w' ⟨rfl, rfl⟩
    exact ⟨rfl, h.used _, (Below.refl B w).setCell (p := ⟨b, 0, none⟩) h.1 _⟩
  · refine (copy_used b w h.cell0).mono ?_
    rintro e w' ⟨rfl, rfl⟩
    exact ⟨rfl, h, Below.refl B _⟩

set_option maxHeartbeats 2000000 in
set_option maxRecDepth 100000 in
theorem writeRune (B b : Nat) (bs : List Value) (r : Int) (hr0 : -2147483648 ≤ r) (hr1 : r ≤ 2147483647) (w : World) (h : Lib.IsBuilderF 171 5 B b bs w) (hlen : bs.length + 4 ≤ 140737488355328) (hBw : B ≤ w.heap.size) :
    Calls Tryz.prog 173 #[.pointer (some ⟨b, 0, none⟩), .int .i32 r] w fun e w' => (∃ v, e = .returned v) ∧ Lib.IsBuilderF 171 5 B b (bs ++ Lib.runeCells r) w' ∧ Below B w w' := by
  have hk4 := Lib.runeCells_le r
  have HC := Lib.hid (copy_any B b bs w h)
  clear h
  go_enter Tryz.func173, Tryz.ntmps173
  go_wp2_with (fail)
  refine HC.out.mono ?_
  rintro e w1 ⟨rfl, h1, hb1⟩
  clear HC
  obtain ⟨hB, v, hbk, hown, hne⟩ := h1
  obtain ⟨ao, cap, rfl⟩ : ∃ ao cap, v = .slice ao bs.length cap := by
    rcases hown.2 with ⟨hv, h0⟩ | ⟨g, cap, cur, fz, hv, _⟩
    · exact ⟨none, 0, by rw [hv, h0]⟩
    · exact ⟨_, _, hv⟩
  have c0 : w1.cell? ⟨b, 0, none⟩ = some (.pointer (some ⟨b, 0, none⟩)) := by rw [Lib.cell_of_heap hbk]; rfl
  have c1 : w1.cell? ⟨b, 1, none⟩ = some (.slice ao bs.length cap) := by rw [Lib.cell_of_heap hbk]; rfl
  have HA := Lib.hid (Tryz.utf8_AppendRune_row B (.slice ao bs.length cap) bs.length bs r hr0 hr1 w1 hown hlen (by have := hb1.size; omega))
  have Hbk := Lib.hid hbk
  have Hne := Lib.hid hne
  have Hown := Lib.hid hown
  clear hbk hne hown
  go_wp2_with (fail)
  refine HA.out.mono ?_
  rintro e w2 ⟨v', rfl, hown', o, hgrow⟩
  have hlt : b < w1.heap.size := (Array.getElem?_eq_some_iff.1 Hbk.out).1
  have hb2 : w2.heap[b]? = some (.cells #[.pointer (some ⟨b, 0, none⟩), .slice ao bs.length cap] 171 (0, 0)) := by
    rw [hgrow.block b (by simp; omega) (fun e => Hne.out e.symm), Lib.alloc_old w1 _ b hlt]
    exact Hbk.out
  have d0 : w2.cell? ⟨b, 0, none⟩ = some (.pointer (some ⟨b, 0, none⟩)) := by rw [Lib.cell_of_heap hb2]; rfl
  have d1 : w2.cell? ⟨b, 1, none⟩ = some (.slice ao bs.length cap) := by rw [Lib.cell_of_heap hb2]; rfl
  have f1 : w2.frozen? ⟨b, 1, none⟩ = false := Lib.frozen_of_heap hb2 1
  obtain ⟨g, cap', rfl⟩ : ∃ g cap', v' = .slice (some ⟨g, 0, none⟩) (bs.length + (Lib.runeCells r).length) cap' := by
    rcases hown'.2 with ⟨_, h0⟩ | ⟨g, cap', cur, fz, hv, _⟩
    · omega
    · exact ⟨g, cap', hv⟩
  have Hb2 := Lib.hid hb2
  have Hown' := Lib.hid hown'
  have Hgrow := Lib.hid hgrow
  clear hb2 hown' hgrow
  go_wp2
  go_ret2
  refine ⟨⟨_, rfl⟩, .inr ?_, ?_⟩
  · exact Lib.BuilderAtF.put (T := 171) (e := 5) hB Hb2.out (bs' := bs ++ Lib.runeCells r) (by simpa using Hown'.out) (by decide)
  · exact ((hb1.alloc (by have := hb1.size; omega) _).grown Hgrow.out (by have := hb1.size; simp; omega) (fun k hk => (Hown.out.lt k hk).1)).setCell (p := ⟨b, 1, none⟩) hB _
end Go.Proofs.YtlibdhnlmekmhaaGreatDoor.Build
end

/- The contracts of numeral, integer, intern, token. -/
section
namespace Go.Proofs.YtlibdhnlmekmhaaGreatDoor.Rd
set_option maxRecDepth 100000
open Go.RowKit Go.Lib
open Go.Proofs.YtlibdhnlmekmhaaGreatDoor.Own Go.Proofs.YtlibdhnlmekmhaaGreatDoor.Hp Go.Proofs.YtlibdhnlmekmhaaGreatDoor.Rep Go.Proofs.YtlibdhnlmekmhaaGreatDoor.Get Go.Proofs.YtlibdhnlmekmhaaGreatDoor.Utf

theorem trim_any (s : ByteArray) (hs : s.size ≤ 4000000) (w : World) :
    Calls Tryz.prog 203 #[.string s, .string ⟨#[48, 49, 50, 51, 52, 53, 54, 55, 56, 57]⟩] w fun e w' => e = .returned (.string ⟨(trimS s.data.toList digitsB).toArray⟩) ∧ Below w.heap.size w w' :=
  Any.strings_Trim_laid Tryz.lays160 (by kernel_rfl) s ⟨#[48, 49, 50, 51, 52, 53, 54, 55, 56, 57]⟩ w (by omega) (by decide) (ascii_of_all (by decide))
/-- What is trimmed away. -/
theorem trim_all {s : ByteArray} (h : s.data.toList.all (digitsB.contains ·) = true) : (⟨(trimS s.data.toList digitsB).toArray⟩ : ByteArray).toList.isEmpty = true := by
  rw [toList_data]
  simp [(trimS_nil s.data.toList digitsB).2 h]
theorem trim_some {s : ByteArray} (h : s.data.toList.all (digitsB.contains ·) = false) : (⟨(trimS s.data.toList digitsB).toArray⟩ : ByteArray).toList.isEmpty = false := by
  rw [toList_data]
  cases hh : trimS s.data.toList digitsB with
  | nil => rw [(trimS_nil _ _).1 hh] at h; cases h
  | cons b l => simp
theorem numeral_rest (s T : ByteArray) (hs : s.size ≤ 4000000) (h0 : 0 < s.size) (B : Bool) (hB : B = (!T.data.toList.isEmpty && T.data.toList.all (digitsB.contains ·)))
    (h1 : ((s[0].toNat = 43 ∨ s[0].toNat = 45) ∧ T = s.extract 1 s.size) ∨ (s[0].toNat ≠ 43 ∧ s[0].toNat ≠ 45 ∧ T = s)) (w : World) :
    Calls Tryz.prog 178 #[.string s] w fun e w' => e = .returned (.bool B) ∧ Below w.heap.size w w' := by
  have hTs : T.size ≤ 4000000 := by
    rcases h1 with ⟨_, rfl⟩ | ⟨_, _, rfl⟩
    · rw [ByteArray.size_extract]; omega
    · exact hs
  have HT := Lib.hid (trim_any T hTs)
  have h9 : T.toList = T.data.toList := toList_data T
  cases he : T.data.toList.isEmpty with
  | true =>
    rw [he] at hB
    have hB2 : B = false := by rw [hB]; rfl
    subst hB2
    have h2 : T.toList.isEmpty = true := by rw [h9]; exact he
    have h3 : T.toList = [] := by simpa using h2
    have HZ := Lib.hid (show T.size = 0 by rw [Lib.size_eq, List.isEmpty_iff.1 he]; rfl)
    clear hB he h9 HT hTs
    rcases h1 with ⟨k | k, rfl⟩ | ⟨k1, k2, rfl⟩
    · go_enter Tryz.func178, Tryz.ntmps178
      go_wp2_with fail
      go_ret
      exact ⟨rfl, Below.refl _ _⟩
    · go_enter Tryz.func178, Tryz.ntmps178
      go_wp2_with fail
      go_ret
      exact ⟨rfl, Below.refl _ _⟩
    · have := HZ.out
      omega
  | false =>
    rw [he] at hB
    have h2 : T.toList.isEmpty = false := by rw [h9]; exact he
    have h2' : (!T.toList.isEmpty) = true := by rw [h2]; rfl
    obtain ⟨U, hU⟩ : ∃ U : ByteArray, (⟨(trimS T.data.toList digitsB).toArray⟩ : ByteArray) = U := ⟨_, rfl⟩
    rw [hU] at HT
    have hUB : U.toList.isEmpty = B := by
      rw [← hU, hB]
      cases ha : T.data.toList.all (digitsB.contains ·) with
      | true => rw [trim_all ha]; rfl
      | false => rw [trim_some ha]; rfl
    clear hB he h9 hU hTs
    rcases h1 with ⟨k | k, rfl⟩ | ⟨k1, k2, rfl⟩
    · go_enter Tryz.func178, Tryz.ntmps178
      go_wp2_with (go_at_call 203; refine (HT.out _).mono ?_; rintro e w' ⟨rfl, hb⟩)
      all_goals (go_ret; exact ⟨by simp_all, hb⟩)
    · go_enter Tryz.func178, Tryz.ntmps178
      go_wp2_with (go_at_call 203; refine (HT.out _).mono ?_; rintro e w' ⟨rfl, hb⟩)
      all_goals (go_ret; exact ⟨by simp_all, hb⟩)
    · have n1 : (T[0].toNat == 43) = false := by simpa using k1
      have n2 : (T[0].toNat == 45) = false := by simpa using k2
      have n3 : ((T[0].toNat : Int) == 43) = false := by simp; omega
      have n4 : ((T[0].toNat : Int) == 45) = false := by simp; omega
      clear k1 k2
      go_enter Tryz.func178, Tryz.ntmps178
      go_wp2_with (go_at_call 203; refine (HT.out _).mono ?_; rintro e w' ⟨rfl, hb⟩)
      all_goals (go_ret; exact ⟨by simp_all, hb⟩)
theorem strOf_size (l : List UInt8) : (strOf l).size = l.length := by rw [Lib.size_eq, strOf_list]
theorem enc_len4 : ∀ (R : List Int), (enc R).length ≤ 4 * R.length
  | [] => by simp [enc]
  | c :: R => by
    have := enc_len4 R
    have := (encode_length c).2
    rw [enc_cons, List.length_append, List.length_cons]
    omega
theorem strOf_zero {b : UInt8} {t : List UInt8} (h : 0 < (strOf (b :: t)).size) : (strOf (b :: t))[0] = b := rfl
theorem strOf_tail (b : UInt8) (t : List UInt8) : (strOf (b :: t)).extract 1 (strOf (b :: t)).size = strOf t := by
  rw [extract_from, strOf_list]
  rfl
/-- numeral, at the bytes of a token's characters. -/
theorem numeral_any (acc : List Int) (hne : acc ≠ []) (hc : ∀ c ∈ acc, isC c) (hl : acc.length ≤ 1000000) (w : World) :
    Calls Tryz.prog 178 #[.string (strOf (enc acc))] w fun e w' => e = .returned (.bool (numB acc)) ∧ Below w.heap.size w w' := by
  cases acc with
  | nil => exact absurd rfl hne
  | cons c r =>
    have hcc := hc c (by simp)
    have hcr : ∀ x ∈ r, isC x := fun x hx => hc x (List.mem_cons_of_mem _ hx)
    obtain ⟨b, t, he, hb⟩ := enc_head hcc r
    have hlen := enc_len4 (c :: r)
    have hsz : (strOf (enc (c :: r))).size ≤ 4000000 := by rw [strOf_size]; omega
    rw [he] at hsz ⊢
    have h0 : 0 < (strOf (b :: t)).size := by rw [strOf_size]; simp
    by_cases hs : c = 43 ∨ c = 45
    · rcases hb with ⟨_, hb, ht⟩ | ⟨hb, _⟩
      · refine numeral_rest _ (strOf t) hsz h0 _ ?_ (.inl ⟨?_, (strOf_tail b t).symm⟩) w
        · rw [strOf_list, ht, all_digits r hcr]
          unfold numB
          rw [show unsign (c :: r) = r by simp only [unsign]; rw [if_pos hs]]
          congr 2
          cases r with
          | nil => rfl
          | cons d r => rw [enc_cons]; cases hd : encodeRune d ++ enc r with
            | nil => exact absurd hd (encode_ne d _)
            | cons _ _ => rfl
        · rw [strOf_zero h0, hb, low_byte hcc.1 (by omega)]
          omega
      · omega
    · refine numeral_rest _ (strOf (b :: t)) hsz h0 _ ?_ (.inr ⟨?_, ?_, rfl⟩) w
      · rw [strOf_list, ← he, all_digits (c :: r) hc]
        unfold numB
        rw [show unsign (c :: r) = c :: r by simp only [unsign]; rw [if_neg hs], he]
        rfl
      · rw [strOf_zero h0]
        rcases hb with ⟨_, hb, _⟩ | ⟨_, hb⟩
        · rw [hb, low_byte hcc.1 (by omega)]; have := hcc.1; omega
        · omega
      · rw [strOf_zero h0]
        rcases hb with ⟨_, hb, _⟩ | ⟨_, hb⟩
        · rw [hb, low_byte hcc.1 (by omega)]; have := hcc.1; omega
        · omega
/-- How integer ends. -/
def intE (acc : List Int) (k : Nat) : Ending := if -2305843009213693952 ≤ intV acc ∧ intV acc ≤ 2305843009213693951 then .returned (wd (0, intV acc)) else faultE 15 k
theorem bytes_below {w w' : World} {t5 : TypeId} (h : w' = w ∨ ∃ t, w' = Lib.bytesWorld w t5 t) : Below w.heap.size w w' := by
  rcases h with rfl | ⟨t, rfl⟩
  · exact Below.refl _ _
  · exact Lib.bytesWorld_below _ _ _
/-- integer, at a numeral. -/
theorem integer_any (acc : List Int) (hn : numB acc = true) (hc : ∀ c ∈ acc, isC c) (hl : acc.length ≤ 1000000) (k : Nat) (w : World) (hE : ErrVar w) :
    Calls Tryz.prog 179 #[.string (strOf (enc acc)), .int .i64 (k : Int)] w fun e w' => e = intE acc k ∧ Below w.heap.size w w' := by
  have hlen := enc_len4 acc
  have hsz : (strOf (enc acc)).size ≤ 4000000 := by rw [strOf_size]; omega
  have hA := atoi_num hc hn
  rw [← strOf_list (enc acc)] at hA
  unfold intE
  generalize strOf (enc acc) = s at *
  obtain ⟨v, hv⟩ : ∃ v, intV acc = v := ⟨_, rfl⟩
  rw [hv] at hA ⊢
  have hW1 : Below w.heap.size w (w.alloc (.cells #[.int .i64 0, .int .i64 0] 28)) := (Below.refl _ _).alloc (Nat.le_refl _) _
  rcases hA with hA | ⟨hA, hr⟩
  · have HA := Lib.hid (fun w => (Tryz.strconv_Atoi_ok s (by omega) v hA w).mono (R' := fun e w' => e = .returned (.tuple #[.int .i64 v, .nilIface]) ∧ Below w.heap.size w w') fun e w' ⟨he, hw⟩ => ⟨he, bytes_below hw⟩)
    have HW := Lib.hid hW1
    clear hA hn hv hlen hW1 hc hl hE
    by_cases hin : -2305843009213693952 ≤ v ∧ v ≤ 2305843009213693951
    · rw [if_pos hin]
      have n1 : ¬ v < -2305843009213693952 := by omega
      have n2 : ¬ 2305843009213693951 < v := by omega
      clear hin
      go_enter Tryz.func179, Tryz.ntmps179
      go_wp2_with (go_at_call 204; refine (HA.out _).mono ?_; rintro e w1 ⟨rfl, hw⟩; have HB := Lib.hid hw; have hB := one_new hw; obtain ⟨b0, b1, e0, e1⟩ := hB.two; clear hB hw)
      refine bodyPost_ret (v := wd (0, v)) (by simp [results, Tryz.results179, go_sem, b0, b1]) rfl ⟨rfl, ?_⟩
      exact ((HW.out.trans (HB.out.mono HW.out.size)).setCell (by simp) _).setCell (by simp) _
    · rw [if_neg hin]
      have HI := Lib.hid hin
      clear hin
      unfold faultE
      go_enter Tryz.func179, Tryz.ntmps179
      go_wp2_with (go_at_call 204; refine (HA.out _).mono ?_; rintro e w1 ⟨rfl, hw⟩; have HB := Lib.hid hw; have hB := one_new hw; obtain ⟨b0, b1, e0, e1⟩ := hB.two; clear hB hw)
      all_goals first
        | exact ⟨rfl, rfl, HW.out.trans (HB.out.mono HW.out.size)⟩
        | (exfalso; exact HI.out (by omega))
  · rw [if_neg hr]
    obtain ⟨ev, hev, hev2⟩ := hE.below hW1
    have HA := Lib.hid ((Tryz.strconv_Atoi_range s (by omega) hA ev _ hev hev2).mono (R' := fun e w' => ∃ N, e = .returned (.tuple #[.int .i64 (Lib.atoiSat s.data.toList), .iface 244 (.pointer (some ⟨N, 0, none⟩))]) ∧ Below (w.alloc (.cells #[.int .i64 0, .int .i64 0] 28)).heap.size (w.alloc (.cells #[.int .i64 0, .int .i64 0] 28)) w') fun e w' ⟨N, he, _, _, h3⟩ => ⟨N, he, h3⟩)
    have HW := Lib.hid hW1
    generalize Lib.atoiSat s.data.toList = sat at *
    clear hA hn hv hlen hW1 hc hl hE hev hev2 hr
    unfold faultE
    go_enter Tryz.func179, Tryz.ntmps179
    go_wp2_with (go_at_call 204; refine HA.out.mono ?_; rintro e w1 ⟨N, rfl, hw⟩; have HB := Lib.hid hw; clear hw)
    all_goals exact ⟨rfl, rfl, HW.out.trans (HB.out.mono HW.out.size)⟩
end Go.Proofs.YtlibdhnlmekmhaaGreatDoor.Rd
end
