/- A form that was read is read with any fuel that suffices for its characters; the theorem of the stage, of the plain reader. | The contract of Read: what it reads. | The contract of Read: what it reads. -/
import Derived.RegionTactic
import Derived.Test.YtlibdhnlmekmhaaGreatDoorMh27
import Derived.Test.YtlibdhnlmekmhaaGreatDoorMh35
/- A form that was read is read with any fuel that suffices for its characters; the theorem of the stage, of the plain reader. -/
section
namespace Go.Proofs.YtlibdhnlmekmhaaGreatDoor.Rd
open Go.RowKit Go.Lib
open Go.Proofs.YtlibdhnlmekmhaaGreatDoor.Hp Go.Proofs.YtlibdhnlmekmhaaGreatDoor.Add Go.Proofs.YtlibdhnlmekmhaaGreatDoor.Make Go.Proofs.YtlibdhnlmekmhaaGreatDoor.Utf Go.Proofs.YtlibdhnlmekmhaaGreatDoor.Strs
open Go.Proofs.YtlibdhnlmekmhaaGreatDoor.Nt hiding Wd

def Fl {α : Type} (j : Nat) (F G : St → Res α) : Prop := ∀ s x s', F s = .ok x s' → 2 * s.rest.length ≤ 2 * s'.rest.length + j → G s = .ok x s'
theorem listG_fuel {lim j o : Nat} {E E' : St → Res (List Wd × Wd)} {s s' : St} {x : Wd} {c : Int} {l : List Int} (hE : Fl j E E') (hs : s.rest = c :: l) (h : listG lim E o s = .ok x s') (hb : 2 * s.rest.length ≤ 2 * s'.rest.length + (j + 1)) : listG lim E' o s = .ok x s' := by
  have hd : s.rest.tail.length + 1 = s.rest.length := by rw [hs]; rfl
  unfold listG at h ⊢
  split at h
  · cases h
  · rename_i ho
    rw [if_neg ho]
    cases hr : E ⟨s.rest.tail, s.ob, s.tb⟩ with
    | err => rw [hr] at h; cases h
    | ok y s2 =>
      obtain ⟨l', w⟩ := y
      rw [hr] at h
      have hq : s'.rest = s2.rest := by dsimp only at h; split at h <;> cases h; rfl
      rw [hE _ _ _ hr (by rw [← hq]; simp only; omega)]
      exact h
theorem vecG_fuel {lim j o : Nat} {V V' : St → Res (List Wd)} {s s' : St} {x : Wd} {c : Int} {l : List Int} (hV : Fl j V V') (hs : s.rest = c :: l) (h : vecG lim V o s = .ok x s') (hb : 2 * s.rest.length ≤ 2 * s'.rest.length + (j + 1)) : vecG lim V' o s = .ok x s' := by
  have hd : s.rest.tail.length + 1 = s.rest.length := by rw [hs]; rfl
  unfold vecG at h ⊢
  split at h
  · cases h
  · rename_i ho
    rw [if_neg ho]
    cases hr : V ⟨s.rest.tail, s.ob, s.tb⟩ with
    | err => rw [hr] at h; cases h
    | ok y s2 =>
      rw [hr] at h
      have hq : s'.rest = s2.rest := by dsimp only at h; split at h <;> cases h; rfl
      rw [hV _ _ _ hr (by rw [← hq]; simp only; omega)]
      exact h
theorem prefG_fuel {lim j o len : Nat} {n : Int} {F F' : St → Res Wd} {s s' : St} {x : Wd} {c : Int} {l : List Int} (hF : Fl j F F') (hlen : 1 ≤ len) (hs : s.rest = c :: l) (h : prefG lim F o n len s = .ok x s') (hb : 2 * s.rest.length ≤ 2 * s'.rest.length + (j + 1)) : prefG lim F' o n len s = .ok x s' := by
  have hd : (s.rest.drop len).length + 1 ≤ s.rest.length := by rw [List.length_drop, hs, List.length_cons]; omega
  unfold prefG at h ⊢
  split at h
  · cases h
  · rename_i ho
    rw [if_neg ho]
    cases hr : F ⟨s.rest.drop len, s.ob, s.tb⟩ with
    | err => rw [hr] at h; cases h
    | ok y s2 =>
      rw [hr] at h
      have hq : s'.rest = s2.rest := by
        dsimp only at h
        split at h
        · rename_i z s3 he
          rw [consG_suf h, consG_suf he]
        · cases h
      rw [hF _ _ _ hr (by rw [← hq]; simp only; omega)]
      exact h
theorem formG_fuel {lim j o : Nat} {F F' : St → Res Wd} {E E' : St → Res (List Wd × Wd)} {V V' : St → Res (List Wd)} {s s' : St} {x : Wd} (hF : Fl j F F') (hE : Fl j E E') (hV : Fl j V V') (h : formG lim F E V o s = .ok x s') (hb : 2 * s.rest.length ≤ 2 * s'.rest.length + (j + 1)) : formG lim F' E' V' o s = .ok x s' := by
  unfold formG at h ⊢
  split at h
  · cases h
  · rename_i c r hk
    have hsuf := (skipF_suf s.rest false).length_le
    rw [hk] at hsuf
    have hb' : 2 * (⟨c :: r, s.ob, s.tb⟩ : St).rest.length ≤ 2 * s'.rest.length + (j + 1) := by simp only; omega
    unfold headG at h ⊢
    split at h
    · rename_i e; rw [if_pos e]; exact listG_fuel hE rfl h hb'
    · rename_i e; rw [if_neg e]
      split at h
      · cases h
      · rename_i e; rw [if_neg e]
        split at h
        · rename_i e; rw [if_pos e]; exact vecG_fuel hV rfl h hb'
        · rename_i e; rw [if_neg e]
          split at h
          · rename_i e; rw [if_pos e]; exact prefG_fuel hF (Nat.le_refl _) rfl h hb'
          · rename_i e; rw [if_neg e]
            split at h
            · rename_i e; rw [if_pos e]; exact prefG_fuel hF (Nat.le_refl _) rfl h hb'
            · rename_i e; rw [if_neg e]
              split at h
              · rename_i e; rw [if_pos e]
                unfold commaG at h ⊢
                split at h
                · rename_i e; rw [if_pos e]; exact prefG_fuel hF (by omega) rfl h hb'
                · rename_i e; rw [if_neg e]; exact prefG_fuel hF (Nat.le_refl _) rfl h hb'
              · rename_i e; rw [if_neg e]
                split at h
                · rename_i e; rw [if_pos e]
                  unfold hashG at h ⊢
                  split at h
                  · rename_i e; rw [if_pos e]; exact prefG_fuel hF (by omega) rfl h hb'
                  · rename_i e; rw [if_neg e]; exact h
                · rename_i e; rw [if_neg e]; exact h
theorem elemG_fuel {j : Nat} {F F' : St → Res Wd} {E E' : List Wd → St → Res (List Wd × Wd)} {acc : List Wd} {s s' : St} {x : List Wd × Wd} (lF : ∀ s x s', F s = .ok x s' → Lt s.rest s'.rest) (lE : ∀ a s x s', E a s = .ok x s' → Lt s.rest s'.rest)
    (hF : Fl j F F') (hE : ∀ a, Fl j (E a) (E' a)) (h : elemG F E acc s = .ok x s') (hb : 2 * s.rest.length ≤ 2 * s'.rest.length + (j + 1)) : elemG F' E' acc s = .ok x s' := by
  have hsuf := (skipF_suf s.rest false).length_le
  unfold elemG at h ⊢
  generalize hk : skipF false s.rest = R at *
  have ht : R.tail.length ≤ R.length := by rw [List.length_tail]; omega
  split at h
  · rename_i e; rw [if_pos e]; exact h
  · rename_i e; rw [if_neg e]
    split at h
    · rename_i e; rw [if_pos e]
      unfold tailG at h ⊢
      cases hr : F ⟨R.tail, s.ob, s.tb⟩ with
      | err => rw [hr] at h; cases h
      | ok y s2 =>
        rw [hr] at h
        have hq : s'.rest.length + 1 ≤ s2.rest.length := by
          dsimp only at h
          split at h
          · cases h
          · rename_i d r hk2
            have h3 := (skipF_suf s2.rest false).length_le
            rw [hk2, List.length_cons] at h3
            split at h <;> cases h
            exact h3
        rw [hF _ _ _ hr (by simp only; omega)]
        exact h
    · rename_i e; rw [if_neg e]
      cases hr : F ⟨R, s.ob, s.tb⟩ with
      | err => rw [hr] at h; cases h
      | ok y s2 =>
        rw [hr] at h
        dsimp only at h
        have h1 := (lF _ _ _ hr).2
        have h2 := (lE _ _ _ _ h).2
        simp only at h1
        rw [hF _ _ _ hr (by simp only; omega)]
        exact hE _ _ _ _ h (by omega)
theorem eachG_fuel {j : Nat} {F F' : St → Res Wd} {V V' : List Wd → St → Res (List Wd)} {acc : List Wd} {s s' : St} {x : List Wd} (lF : ∀ s x s', F s = .ok x s' → Lt s.rest s'.rest) (lV : ∀ a s x s', V a s = .ok x s' → Lt s.rest s'.rest)
    (hF : Fl j F F') (hV : ∀ a, Fl j (V a) (V' a)) (h : eachG F V acc s = .ok x s') (hb : 2 * s.rest.length ≤ 2 * s'.rest.length + (j + 1)) : eachG F' V' acc s = .ok x s' := by
  have hsuf := (skipF_suf s.rest false).length_le
  unfold eachG at h ⊢
  generalize hk : skipF false s.rest = R at *
  split at h
  · rename_i e; rw [if_pos e]; exact h
  · rename_i e; rw [if_neg e]
    cases hr : F ⟨R, s.ob, s.tb⟩ with
    | err => rw [hr] at h; cases h
    | ok y s2 =>
      rw [hr] at h
      dsimp only at h
      have h1 := (lF _ _ _ hr).2
      have h2 := (lV _ _ _ _ h).2
      simp only at h1
      rw [hF _ _ _ hr (by simp only; omega)]
      exact hV _ _ _ _ h (by omega)
theorem M_fuel (lim : Nat) : ∀ k j, (∀ o, Fl j (formM lim k o) (formM lim j o)) ∧ (∀ o a, Fl j (elemM lim k o a) (elemM lim j o a)) ∧ ∀ o a, Fl j (eachM lim k o a) (eachM lim j o a)
  | 0, _ => ⟨fun _ _ _ _ h => (by cases h), fun _ _ _ _ _ h => (by cases h), fun _ _ _ _ _ h => (by cases h)⟩
  | k + 1, 0 => by
    refine ⟨fun o s x s' h hb => ?_, fun o a s x s' h hb => ?_, fun o a s x s' h hb => ?_⟩
    · have := (formM_lt h).2
      omega
    · have := ((M_lt lim (k + 1)).1 _ _ _ _ _ h).2
      omega
    · have := ((M_lt lim (k + 1)).2 _ _ _ _ _ h).2
      omega
  | k + 1, j + 1 => by
    obtain ⟨h1, h2, h3⟩ := M_fuel lim k j
    refine ⟨fun o s x s' h hb => ?_, fun o a s x s' h hb => ?_, fun o a s x s' h hb => ?_⟩
    · rw [formM_succ] at h ⊢
      exact formG_fuel (h1 _) (h2 _ _) (h3 _ _) h hb
    · rw [elemM_succ] at h ⊢
      exact elemG_fuel (fun _ _ _ h => formM_lt h) (fun _ _ _ _ h => (M_lt lim k).1 _ _ _ _ _ h) (h1 _) (h2 _) h hb
    · rw [eachM_succ] at h ⊢
      exact eachG_fuel (fun _ _ _ h => formM_lt h) (fun _ _ _ _ h => (M_lt lim k).2 _ _ _ _ _ h) (h1 _) (h3 _) h hb
theorem form_fuel {lim k j o : Nat} {s s' : St} {x : Wd} (h : formM lim k o s = .ok x s') (hb : 2 * s.rest.length ≤ 2 * s'.rest.length + j) : formM lim j o s = .ok x s' := (M_fuel lim k j).1 o s x s' h hb

/-- The theorem of the stage, of the plain reader. -/
theorem read_behind {lim : Nat} {L B : List Int} {ob : Obs} {tb : Tb} (hro : Ro lim ⟨L, ob, tb⟩) (hc : (readR lim L 0 ob tb).c = 0) :
    ∃ n : Nat, n ≤ L.length ∧ (readR lim L 0 ob tb).en = n ∧ (readR lim L 0 ob tb).k = 0 ∧ readR lim (L.take n ++ 32 :: B) 0 ob tb = readR lim L 0 ob tb := by
  have hsuf := skipF_suf L false
  unfold readR at hc
  rw [if_neg (by omega)] at hc
  simp only [Int.toNat_zero, List.drop_zero] at hc
  by_cases hs : skipF false L = []
  · rw [if_pos hs] at hc
    cases hc
  rw [if_neg hs] at hc
  cases hq : formM lim (2 * L.length + 1) 0 ⟨skipF false L, ob, tb⟩ with
  | err c m ob' tb' =>
    rw [hq] at hc
    have := form_room (k := 2 * L.length + 1) (o := 0) (hro.le hsuf.length_le)
    rw [hq] at this
    have hc' : c = 0 := hc
    rw [hc'] at this
    have : Er 0 := this
    exact absurd this (by decide)
  | ok x s' =>
    have hlt := formM_lt hq
    obtain ⟨v, hv, hv2⟩ := Lt.split hlt
    simp only at hv2
    obtain ⟨p, hp⟩ := hsuf
    obtain ⟨r, ob', tb'⟩ := s'
    simp only at hv2 hlt
    rw [hv2] at hq hp
    have hL : L = (p ++ v) ++ r := by rw [List.append_assoc]; exact hp.symm
    have hn : (p ++ v).length = L.length - r.length := by rw [hL]; simp; omega
    have hA : readR lim L 0 ob tb = ⟨x, (L.length : Int) - r.length, 0, 0, ob', tb'⟩ := by
      unfold readR
      rw [if_neg (by omega)]
      simp only [Int.toNat_zero, List.drop_zero]
      rw [if_neg hs, hv2, hq]
      rfl
    refine ⟨(p ++ v).length, by rw [hL]; simp, ?_, ?_, ?_⟩
    · rw [hA, hn]
      have : r.length ≤ L.length := by rw [hL]; simp; omega
      simp only
      omega
    · rw [hA]
    · have ht : L.take (p ++ v).length = p ++ v := by rw [hL]; exact List.take_left' rfl
      rw [ht, hA]
      have hsk : skipF false ((p ++ v) ++ 32 :: B) = v ++ 32 :: B := by
        refine skipF_ext (p ++ v) false v r (32 :: B) hv ?_
        rw [← hL]
        exact hv2
      have hb := form_behind (B := B) hq
      have hb2 := form_fuel (j := 2 * ((p ++ v) ++ 32 :: B).length + 1) hb (by simp only [List.length_append, List.length_cons]; omega)
      unfold readR
      rw [if_neg (by omega)]
      simp only [Int.toNat_zero, List.drop_zero, hsk]
      rw [if_neg (by simp), hb2]
      simp only [ansF, List.length_append, List.length_cons]
      rw [hL]
      simp only [List.length_append]
      congr 1
      omega
end Go.Proofs.YtlibdhnlmekmhaaGreatDoor.Rd
end

/- The contract of Read: what it reads. -/
section
namespace Go.Proofs.YtlibdhnlmekmhaaGreatDoor.Rd
set_option maxRecDepth 100000
open Go.RowKit Go.Maps Go.Lib
open Go.Proofs.YtlibdhnlmekmhaaGreatDoor.Own Go.Proofs.YtlibdhnlmekmhaaGreatDoor.Hp Go.Proofs.YtlibdhnlmekmhaaGreatDoor.Rep Go.Proofs.YtlibdhnlmekmhaaGreatDoor.Get Go.Proofs.YtlibdhnlmekmhaaGreatDoor.Add Go.Proofs.YtlibdhnlmekmhaaGreatDoor.Make Go.Proofs.YtlibdhnlmekmhaaGreatDoor.Utf Go.Proofs.YtlibdhnlmekmhaaGreatDoor.Strs Go.Proofs.YtlibdhnlmekmhaaGreatDoor.Clone
open Go.Proofs.YtlibdhnlmekmhaaGreatDoor.Nt hiding Wd

set_option maxHeartbeats 2000000 in
theorem read_end {w0 w : World} {base hp lim tp : Nat} {ob : Obs} {tb : Tb} {F : Nat → Prop} (h : HT w base hp lim tp ob tb F) (hb : Below w0.heap.size w0 w) (hbase : w0.heap.size ≤ base) (hS : Sys w0) (h1 : 0 < tb.syms.length)
    (u : ByteArray) (hu : u.size < 1000000) (hv : validD u.data.toList = true) {L : List Int} (hL : runes u.data.toList = L) (a : Nat) (hle : a ≤ L.length) (hsk : skipF false (L.drop a) = []) :
    Calls Tryz.prog 16 #[ptr hp, tptr tp, .string u, .int .i64 (a : Int)] w (ReadOut w base hp lim tp F (0, 0) 0 13 (L.length : Int) ob tb) := by
  have hmf : ∀ (fn : Fn) (first cap : Array Value) (w : World), (Instr.makeFunc fn first cap).run Tryz.prog w = .ok (.func fn first cap) w := fun _ _ _ _ => rfl
  have hb2 : Below w.heap.size w ((w.alloc wbox0).alloc fbox0) := ((Below.refl _ _).alloc (Nat.le_refl _) _).alloc (by simp) _
  have HN := Lib.hid (newParser_ok (h.below hb2) (hb.trans (hb2.mono hb.size)) hbase hS h1 u hu hv)
  rw [hL] at HN
  have HE := Lib.hid (RE.start h)
  have HH := Lib.hid h
  have HSk := Lib.hid hsk
  have HLe := Lib.hid hle
  have hd : ¬ (a : Int) < 0 := by omega
  have hd2 : ¬ (L.length : Int) < (a : Int) := by omega
  have HF1 := Lib.hid (h.fresh (b := w.heap.size) (Nat.le_refl _))
  have HF2 := Lib.hid (h.fresh (b := w.heap.size + 1) (Nat.le_succ _))
  have HB2 := Lib.hid hb2
  clear h hb hbase hS h1 hu hv hL hb2 hle hsk
  go_enter_defers Tryz.func16, Tryz.ntmps16
  go_wp2_with fail
  refine HN.out.mono ?_
  rintro e w3 ⟨X, hX, hw0, hbs, hhp, hlm, htp, hl, rfl, hP, hb3, hp3⟩
  have HEq := Lib.hid (show X.base = base ∧ X.hp = hp ∧ X.lim = lim ∧ X.tp = tp ∧ X.l = L from ⟨hbs, hhp, hlm, htp, hl⟩)
  have HX := Lib.hid hX
  have HP := Lib.hid hP
  have HB3 := Lib.hid hb3
  have HE3 := Lib.hid (HE.out.later hb3)
  have hsz : ((w.alloc wbox0).alloc fbox0).heap.size = w.heap.size + 1 + 1 := by simp
  have HXp := Lib.hid (show w.heap.size + 1 < X.p by omega)
  obtain ⟨_, _, c2, c3, _, _⟩ := Blk.six hP.blk
  have f3 := hP.blk.free 3
  have HSh := Lib.hid hX.short
  rw [hl] at c2
  clear hX hw0 hbs hhp hlm htp hl hP hb3 hp3 hsz
  have hm := HP.out.move HX.out a (by rw [HEq.out.2.2.2.2]; exact HLe.out) (.int .i64 (a : Int)) rfl
  obtain ⟨W4, hW4⟩ : ∃ W, w3.setCell ⟨X.p, 3, none⟩ (.int .i64 (a : Int)) = W := ⟨_, rfl⟩
  rw [hW4, HEq.out.2.2.2.2] at hm
  have HP4 := Lib.hid hm.1
  have HA4 := Lib.hid hm.2
  clear hm
  go_wp2_with fail
  refine (HP4.out.skip HX.out).mono ?_
  rintro e w5 ⟨rfl, a5, q, hP5, hA5, rfl⟩
  have HP5 := Lib.hid hP5
  have HA5 := Lib.hid (HA4.out.trans hA5)
  clear hP5 hA5 c2 c3 f3 hW4
  dsimp only at HP5
  rw [HSk.out] at HP5
  have HNx := Lib.hid (HP5.out.next HX.out)
  dsimp only [nx] at HNx
  have hpos := HP5.out.pos
  obtain ⟨_, _, _, c3, _, _⟩ := Blk.six HP5.out.blk
  have HR5 := Lib.hid (RE.par rfl (HB2.out.trans (HB3.out.mono HB2.out.size)) HE3.out.b1 HE3.out.b2 HF1.out HF2.out HXp.out HP5.out.ht HA5.out)
  rw [HEq.out.1, HEq.out.2.1, HEq.out.2.2.1, HEq.out.2.2.2.1] at HR5
  have ha5 : a5 = L.length := by rw [HEq.out.2.2.2.2] at hpos; simpa using hpos.symm
  subst ha5
  clear hpos
  dsimp only at HR5
  go_wp2_with (first
    | (go_at_call 67; refine HNx.out.mono ?_; rintro e w' ⟨rfl, rfl⟩))
  refine leaves_cons (f := 64) (args := #[.pointer (some ⟨w.heap.size + 1, 0, none⟩)]) (by simp) (by simp [go_sem]) ?_
  refine (catch_read (w.heap.size + 1) 0 0 13 (L.length : Int) [] _ HR5.out.b2).mono ?_
  rintro e u' w'' ⟨rfl, rfl, rfl⟩
  obtain ⟨hok, hb1, hb2⟩ := HR5.out.err 13 (L.length : Int)
  obtain ⟨g0, g1, _, _⟩ := hb1.two
  obtain ⟨f0, f1, _, _⟩ := hb2.two
  simp [Leaves, settle, results, Tryz.results16, go_sem, g0, g1, f0, f1]
  exact ⟨rfl, hok⟩

set_option maxHeartbeats 2000000 in
theorem read_err {w0 w : World} {base hp lim tp : Nat} {ob : Obs} {tb : Tb} {F : Nat → Prop} (h : HT w base hp lim tp ob tb F) (hb : Below w0.heap.size w0 w) (hbase : w0.heap.size ≤ base) (hS : Sys w0) (h1 : 0 < tb.syms.length)
    (u : ByteArray) (hu : u.size < 1000000) (hv : validD u.data.toList = true) {L : List Int} (hL : runes u.data.toList = L) (a : Nat) (hle : a ≤ L.length) {c0 : Int} {r0 : List Int} (hsk : skipF false (L.drop a) = c0 :: r0) {c : Int} {m : Nat} {ob' : Obs} {tb' : Tb} (hq : formM lim (2 * L.length + 1) 0 ⟨c0 :: r0, ob, tb⟩ = .err c m ob' tb') (hc : c ≠ 7) :
    Calls Tryz.prog 16 #[ptr hp, tptr tp, .string u, .int .i64 (a : Int)] w (ReadOut w base hp lim tp F (0, 0) 0 c ((L.length - m : Nat) : Int) ob' tb') := by
  have hmf : ∀ (fn : Fn) (first cap : Array Value) (w : World), (Instr.makeFunc fn first cap).run Tryz.prog w = .ok (.func fn first cap) w := fun _ _ _ _ => rfl
  have hb2 : Below w.heap.size w ((w.alloc wbox0).alloc fbox0) := ((Below.refl _ _).alloc (Nat.le_refl _) _).alloc (by simp) _
  have HN := Lib.hid (newParser_ok (h.below hb2) (hb.trans (hb2.mono hb.size)) hbase hS h1 u hu hv)
  rw [hL] at HN
  have HE := Lib.hid (RE.start h)
  have HH := Lib.hid h
  have HSk := Lib.hid hsk
  have HQ := Lib.hid hq
  have HC := Lib.hid hc
  have HLe := Lib.hid hle
  have hd : ¬ (a : Int) < 0 := by omega
  have hd2 : ¬ (L.length : Int) < (a : Int) := by omega
  have HF1 := Lib.hid (h.fresh (b := w.heap.size) (Nat.le_refl _))
  have HF2 := Lib.hid (h.fresh (b := w.heap.size + 1) (Nat.le_succ _))
  have HB2 := Lib.hid hb2
  clear h hb hbase hS h1 hu hv hL hb2 hle hsk hq hc
  go_enter_defers Tryz.func16, Tryz.ntmps16
  go_wp2_with fail
  refine HN.out.mono ?_
  rintro e w3 ⟨X, hX, hw0, hbs, hhp, hlm, htp, hl, rfl, hP, hb3, hp3⟩
  have HEq := Lib.hid (show X.base = base ∧ X.hp = hp ∧ X.lim = lim ∧ X.tp = tp ∧ X.l = L from ⟨hbs, hhp, hlm, htp, hl⟩)
  have HX := Lib.hid hX
  have HP := Lib.hid hP
  have HB3 := Lib.hid hb3
  have HE3 := Lib.hid (HE.out.later hb3)
  have hsz : ((w.alloc wbox0).alloc fbox0).heap.size = w.heap.size + 1 + 1 := by simp
  have HXp := Lib.hid (show w.heap.size + 1 < X.p by omega)
  obtain ⟨_, _, c2, c3, _, _⟩ := Blk.six hP.blk
  have f3 := hP.blk.free 3
  have HSh := Lib.hid hX.short
  rw [hl] at c2
  clear hX hw0 hbs hhp hlm htp hl hP hb3 hp3 hsz
  have hm := HP.out.move HX.out a (by rw [HEq.out.2.2.2.2]; exact HLe.out) (.int .i64 (a : Int)) rfl
  obtain ⟨W4, hW4⟩ : ∃ W, w3.setCell ⟨X.p, 3, none⟩ (.int .i64 (a : Int)) = W := ⟨_, rfl⟩
  rw [hW4, HEq.out.2.2.2.2] at hm
  have HP4 := Lib.hid hm.1
  have HA4 := Lib.hid hm.2
  clear hm
  go_wp2_with fail
  refine (HP4.out.skip HX.out).mono ?_
  rintro e w5 ⟨rfl, a5, q, hP5, hA5, rfl⟩
  have HP5 := Lib.hid hP5
  have HA5 := Lib.hid (HA4.out.trans hA5)
  clear hP5 hA5 c2 c3 f3 hW4
  dsimp only at HP5
  rw [HSk.out] at HP5
  have HNx := Lib.hid (HP5.out.next HX.out)
  dsimp only [nx] at HNx
  have hcc : isC c0 := HX.out.chars c0 (List.mem_of_mem_drop (by rw [HP5.out.at_]; simp))
  have n1 : (c0 == -1) = false := by have := hcc.1; simp; omega
  have hlen : (c0 :: r0).length ≤ L.length := by
    rw [← HSk.out]
    exact Nat.le_trans (skipF_suf _ false).length_le (by rw [List.length_drop]; omega)
  have hfm := formOk HX.out (2 * L.length + 1) 0 (c0 :: r0).length (2 * L.length + 1) (Nat.le_refl _) (by omega) _ _ _ _ HP5.out (Nat.le_refl _)
  rw [HEq.out.2.2.1, HQ.out] at hfm
  have HFm := Lib.hid (hfm HC.out)
  clear hcc hlen hfm
  go_wp2_with (first
    | (go_at_call 67; refine HNx.out.mono ?_; rintro e w' ⟨rfl, rfl⟩))
  refine HFm.out.mono ?_
  rintro e w6 ⟨rfl, F6, hH6, hA6⟩
  have HR5 := Lib.hid (RE.par rfl (HB2.out.trans (HB3.out.mono HB2.out.size)) HE3.out.b1 HE3.out.b2 HF1.out HF2.out HXp.out hH6 (HA5.out.trans hA6))
  rw [HEq.out.1, HEq.out.2.1, HEq.out.2.2.1, HEq.out.2.2.2.1] at HR5
  clear hH6 hA6
  obtain ⟨k, hk⟩ : ∃ k : Nat, X.l.length - m = k := ⟨_, rfl⟩
  have HKk := Lib.hid hk
  unfold faultE
  rw [hk]
  clear hk
  go_wp2_with fail
  refine leaves_cons (f := 64) (args := #[.pointer (some ⟨w.heap.size + 1, 0, none⟩)]) (by simp) (by simp [go_sem]) ?_
  refine (catch_read (w.heap.size + 1) 0 0 c (k : Int) [] _ HR5.out.b2).mono ?_
  rintro e u' w'' ⟨rfl, rfl, rfl⟩
  obtain ⟨hok, hb1, hb2⟩ := HR5.out.err c (k : Int)
  obtain ⟨g0, g1, _, _⟩ := hb1.two
  obtain ⟨f0, f1, _, _⟩ := hb2.two
  simp [Leaves, settle, results, Tryz.results16, go_sem, g0, g1, f0, f1]
  rw [← HEq.out.2.2.2.2, HKk.out]
  exact ⟨rfl, hok⟩
end Go.Proofs.YtlibdhnlmekmhaaGreatDoor.Rd
end

/- The contract of Read: what it reads. -/
section
namespace Go.Proofs.YtlibdhnlmekmhaaGreatDoor.Rd
set_option maxRecDepth 100000
open Go.RowKit Go.Maps Go.Lib
open Go.Proofs.YtlibdhnlmekmhaaGreatDoor.Own Go.Proofs.YtlibdhnlmekmhaaGreatDoor.Hp Go.Proofs.YtlibdhnlmekmhaaGreatDoor.Rep Go.Proofs.YtlibdhnlmekmhaaGreatDoor.Get Go.Proofs.YtlibdhnlmekmhaaGreatDoor.Add Go.Proofs.YtlibdhnlmekmhaaGreatDoor.Make Go.Proofs.YtlibdhnlmekmhaaGreatDoor.Utf Go.Proofs.YtlibdhnlmekmhaaGreatDoor.Strs Go.Proofs.YtlibdhnlmekmhaaGreatDoor.Clone
open Go.Proofs.YtlibdhnlmekmhaaGreatDoor.Nt hiding Wd

theorem RE.keeps {w w3 V : World} {base hp lim tp n : Nat} {ob : Obs} {tb : Tb} {F : Nat → Prop} (h : RE w w3 base hp lim tp F ob tb n) (hk : Keeps (fun b => b = n ∨ b = n + 1) w3 V) : HTOk w V base hp lim tp ob tb F := by
  obtain ⟨F', h1, h2, h3, h4⟩ := h.st
  have hn := h.hn
  refine ⟨F', h1.keeps hk fun b e => ?_, ⟨h2.keeps.then hk fun b hlt e => by omega, h2.grow⟩⟩
  rcases e with e | e <;> rw [e] <;> assumption
theorem keeps_drew {G : Nat → Prop} {w V : World} (h : Keeps G w V) : Keeps G w V.drew := ⟨h.os, h.tape, h.output, h.size, h.block⟩

set_option maxHeartbeats 2000000 in
theorem read_ok {w0 w : World} {base hp lim tp : Nat} {ob : Obs} {tb : Tb} {F : Nat → Prop} (h : HT w base hp lim tp ob tb F) (hb : Below w0.heap.size w0 w) (hbase : w0.heap.size ≤ base) (hS : Sys w0) (h1 : 0 < tb.syms.length)
    (u : ByteArray) (hu : u.size < 1000000) (hv : validD u.data.toList = true) {L : List Int} (hL : runes u.data.toList = L) (a : Nat) (hle : a ≤ L.length) {c0 : Int} {r0 : List Int} (hsk : skipF false (L.drop a) = c0 :: r0) {x : Wd} {s' : St} (hq : formM lim (2 * L.length + 1) 0 ⟨c0 :: r0, ob, tb⟩ = .ok x s') :
    Calls Tryz.prog 16 #[ptr hp, tptr tp, .string u, .int .i64 (a : Int)] w (ReadOut w base hp lim tp F x ((L.length - s'.rest.length : Nat) : Int) 0 0 s'.ob s'.tb) := by
  have hmf : ∀ (fn : Fn) (first cap : Array Value) (w : World), (Instr.makeFunc fn first cap).run Tryz.prog w = .ok (.func fn first cap) w := fun _ _ _ _ => rfl
  have hb2 : Below w.heap.size w ((w.alloc wbox0).alloc fbox0) := ((Below.refl _ _).alloc (Nat.le_refl _) _).alloc (by simp) _
  have HN := Lib.hid (newParser_ok (h.below hb2) (hb.trans (hb2.mono hb.size)) hbase hS h1 u hu hv)
  rw [hL] at HN
  have HE := Lib.hid (RE.start h)
  have HH := Lib.hid h
  have HSk := Lib.hid hsk
  have HQ := Lib.hid hq
  have HLe := Lib.hid hle
  have hd : ¬ (a : Int) < 0 := by omega
  have hd2 : ¬ (L.length : Int) < (a : Int) := by omega
  have HF1 := Lib.hid (h.fresh (b := w.heap.size) (Nat.le_refl _))
  have HF2 := Lib.hid (h.fresh (b := w.heap.size + 1) (Nat.le_succ _))
  have HB2 := Lib.hid hb2
  clear h hb hbase hS h1 hu hv hL hb2 hle hsk hq
  go_enter_defers Tryz.func16, Tryz.ntmps16
  go_wp2_with fail
  refine HN.out.mono ?_
  rintro e w3 ⟨X, hX, hw0, hbs, hhp, hlm, htp, hl, rfl, hP, hb3, hp3⟩
  have HEq := Lib.hid (show X.base = base ∧ X.hp = hp ∧ X.lim = lim ∧ X.tp = tp ∧ X.l = L from ⟨hbs, hhp, hlm, htp, hl⟩)
  have HX := Lib.hid hX
  have HP := Lib.hid hP
  have HB3 := Lib.hid hb3
  have HE3 := Lib.hid (HE.out.later hb3)
  have hsz : ((w.alloc wbox0).alloc fbox0).heap.size = w.heap.size + 1 + 1 := by simp
  have HXp := Lib.hid (show w.heap.size + 1 < X.p by omega)
  obtain ⟨_, _, c2, c3, _, _⟩ := Blk.six hP.blk
  have f3 := hP.blk.free 3
  have HSh := Lib.hid hX.short
  rw [hl] at c2
  clear hX hw0 hbs hhp hlm htp hl hP hb3 hp3 hsz
  have hm := HP.out.move HX.out a (by rw [HEq.out.2.2.2.2]; exact HLe.out) (.int .i64 (a : Int)) rfl
  obtain ⟨W4, hW4⟩ : ∃ W, w3.setCell ⟨X.p, 3, none⟩ (.int .i64 (a : Int)) = W := ⟨_, rfl⟩
  rw [hW4, HEq.out.2.2.2.2] at hm
  have HP4 := Lib.hid hm.1
  have HA4 := Lib.hid hm.2
  clear hm
  go_wp2_with fail
  refine (HP4.out.skip HX.out).mono ?_
  rintro e w5 ⟨rfl, a5, q, hP5, hA5, rfl⟩
  have HP5 := Lib.hid hP5
  have HA5 := Lib.hid (HA4.out.trans hA5)
  clear hP5 hA5 c2 c3 f3 hW4
  dsimp only at HP5
  rw [HSk.out] at HP5
  have HNx := Lib.hid (HP5.out.next HX.out)
  dsimp only [nx] at HNx
  have hcc : isC c0 := HX.out.chars c0 (List.mem_of_mem_drop (by rw [HP5.out.at_]; simp))
  have n1 : (c0 == -1) = false := by have := hcc.1; simp; omega
  have hlen : (c0 :: r0).length ≤ L.length := by
    rw [← HSk.out]
    exact Nat.le_trans (skipF_suf _ false).length_le (by rw [List.length_drop]; omega)
  have hfm := formOk HX.out (2 * L.length + 1) 0 (c0 :: r0).length (2 * L.length + 1) (Nat.le_refl _) (by omega) _ _ _ _ HP5.out (Nat.le_refl _)
  rw [HEq.out.2.2.1, HQ.out] at hfm
  have HFm := Lib.hid (hfm trivial)
  clear hcc hlen hfm
  go_wp2_with (first
    | (go_at_call 67; refine HNx.out.mono ?_; rintro e w' ⟨rfl, rfl⟩))
  refine HFm.out.mono ?_
  rintro e w6 ⟨a6, F6, rfl, hP6, hA6⟩
  have hpos := hP6.pos
  rw [HEq.out.2.2.2.2] at hpos
  have HR6 := Lib.hid (RE.par rfl (HB2.out.trans (HB3.out.mono HB2.out.size)) HE3.out.b1 HE3.out.b2 HF1.out HF2.out HXp.out hP6.ht (HA5.out.trans hA6))
  rw [HEq.out.1, HEq.out.2.1, HEq.out.2.2.1, HEq.out.2.2.2.1] at HR6
  have HR7 := Lib.hid (HR6.out.later (bel_box w6 (.cells #[.int .i64 x.1, .int .i64 x.2] 28)))
  obtain ⟨_, _, _, c3, _, _⟩ := Blk.six (hP6.alloc (.cells #[.int .i64 x.1, .int .i64 x.2] 28)).blk
  obtain ⟨x0, x1, _, _⟩ := (Blk.new w6 #[.int .i64 x.1, .int .i64 x.2] 28).two
  obtain ⟨g0, g1, g2, g3⟩ := HR7.out.b1.two
  obtain ⟨f0, f1, f2, f3⟩ := HR7.out.b2.two
  have HPo := Lib.hid hpos
  have HP6 : Hid (X.p < w6.heap.size) := hP6.blk.lt
  clear hP6 hA6 hpos
  go_wp2_with fail
  obtain ⟨n, hn⟩ : ∃ n, w.heap.size = n := ⟨_, rfl⟩
  have h12 : n + 1 < w6.heap.size := by rw [← hn]; exact HR6.out.b2.lt
  have hXp : n + 1 < X.p := by rw [← hn]; exact HXp.out
  have h6p : X.p < w6.heap.size := HP6.out
  obtain ⟨b, hb⟩ : ∃ b, w6.heap.size = b := ⟨_, rfl⟩
  rw [hb] at h12 h6p x0 x1 ⊢
  obtain ⟨W7, hW7⟩ : ∃ W7, w6.alloc (.cells #[.int .i64 x.1, .int .i64 x.2] 28) = W7 := ⟨_, rfl⟩
  have HR8 : Hid (RE w W7 base hp lim tp F s'.ob s'.tb n) := by
    rw [← hn, ← hW7]
    exact HR7.out
  rw [hn] at g0 g1 g2 g3 f0 f1 f2 f3
  rw [hW7] at x0 x1 c3 g0 g1 g2 g3 f0 f1 f2 f3 ⊢
  have n1 : ¬ n = X.p := by omega
  have n2 : ¬ X.p = n := by omega
  have n3 : ¬ n + 1 = X.p := by omega
  have n4 : ¬ X.p = n + 1 := by omega
  have n5 : ¬ n = b := by omega
  have n6 : ¬ b = n := by omega
  have n7 : ¬ n + 1 = b := by omega
  have n8 : ¬ b = n + 1 := by omega
  rw [hn]
  have HN0 := Lib.hid hn
  clear hn hb hW7 HR7 HR6 HE HE3 h12 hXp h6p
  go_region
  clear n1 n2 n3 n4 n5 n6 n7 n8 x0 x1 c3 g0 g1 g2 g3 f0 f1 f2 f3
  have hk1 : Keeps (fun q => q = n ∨ q = n + 1) W7 ((((W7.setCell ⟨n, 0, none⟩ (.int .i64 x.1)).setCell ⟨n, 1, none⟩ (.int .i64 x.2)).setCell ⟨n + 1, 0, none⟩ (.int .i64 0)).setCell ⟨n + 1, 1, none⟩ (.int .i64 0)).drew :=
    keeps_drew (((((keeps_set W7 n 0 _).trans (keeps_set _ n 1 _)).mono fun b _ e => .inl e).trans ((keeps_set _ (n + 1) 0 _).mono fun b _ e => .inr e)).trans ((keeps_set _ (n + 1) 1 _).mono fun b _ e => .inr e))
  have hb1 : Blk ((((W7.setCell ⟨n, 0, none⟩ (.int .i64 x.1)).setCell ⟨n, 1, none⟩ (.int .i64 x.2)).setCell ⟨n + 1, 0, none⟩ (.int .i64 0)).setCell ⟨n + 1, 1, none⟩ (.int .i64 0)).drew n #[.int .i64 x.1, .int .i64 x.2] 28 := by
    have h1 := (HR8.out.b1.set 0 (.int .i64 x.1)).set 1 (.int .i64 x.2)
    have h2 := h1.keeps (keeps_drew ((keeps_set ((W7.setCell ⟨n, 0, none⟩ (.int .i64 x.1)).setCell ⟨n, 1, none⟩ (.int .i64 x.2)) (n + 1) 0 (.int .i64 0)).trans (keeps_set _ (n + 1) 1 (.int .i64 0)))) (by omega)
    simpa using h2
  have hb2 : Blk ((((W7.setCell ⟨n, 0, none⟩ (.int .i64 x.1)).setCell ⟨n, 1, none⟩ (.int .i64 x.2)).setCell ⟨n + 1, 0, none⟩ (.int .i64 0)).setCell ⟨n + 1, 1, none⟩ (.int .i64 0)).drew (n + 1) #[.int .i64 0, .int .i64 0] 31 := by
    have h1 := HR8.out.b2.keeps ((keeps_set W7 n 0 (.int .i64 x.1)).trans (keeps_set _ n 1 (.int .i64 x.2))) (by omega)
    have h2 := (h1.set 0 (.int .i64 0)).set 1 (.int .i64 0)
    have h3 := h2.keeps (keeps_drew (Keeps.refl (fun _ => False) _)) (fun e => e)
    simpa using h3
  obtain ⟨W9, hW9⟩ : ∃ W9, ((((W7.setCell ⟨n, 0, none⟩ (.int .i64 x.1)).setCell ⟨n, 1, none⟩ (.int .i64 x.2)).setCell ⟨n + 1, 0, none⟩ (.int .i64 0)).setCell ⟨n + 1, 1, none⟩ (.int .i64 0)).drew = W9 := ⟨_, rfl⟩
  rw [hW9] at hk1 hb1 hb2 ⊢
  clear hW9
  have hk2 : Keeps (fun q => q = n + 1) W9 ((W9.setCell ⟨n + 1, 0, none⟩ (.int .i64 0)).setCell ⟨n + 1, 1, none⟩ (.int .i64 0)) := (keeps_set W9 (n + 1) 0 _).trans (keeps_set _ (n + 1) 1 _)
  have hok := HR8.out.keeps (hk1.trans (hk2.mono fun b _ e => .inr e))
  obtain ⟨g0, g1, _, _⟩ := (hb1.keeps hk2 (by omega)).two
  have hb3 : Blk ((W9.setCell ⟨n + 1, 0, none⟩ (.int .i64 0)).setCell ⟨n + 1, 1, none⟩ (.int .i64 0)) (n + 1) #[.int .i64 0, .int .i64 0] 31 := by simpa using (hb2.set 0 (.int .i64 0)).set 1 (.int .i64 0)
  obtain ⟨f0, f1, _, _⟩ := hb3.two
  have HB9 := Lib.hid hb2
  have HOk := Lib.hid hok
  have HG := Lib.hid (And.intro (And.intro g0 g1) (And.intro f0 f1))
  clear hk1 hk2 hb1 hb2 hb3 hok g0 g1 f0 f1
  go_wp2_with fail
  refine leaves_cons (f := 64) (args := #[.pointer (some ⟨n + 1, 0, none⟩)]) (by simp) (by simp [go_sem]) ?_
  refine (idle_read (n + 1) 0 0 _ HB9.out).mono ?_
  rintro e u' w'' ⟨rfl, rfl, rfl⟩
  obtain ⟨⟨g0, g1⟩, f0, f1⟩ := HG.out
  simp [Leaves, settle, results, Tryz.results16, go_sem, g0, g1, f0, f1]
  rw [HPo.out]
  exact ⟨rfl, HOk.out⟩
end Go.Proofs.YtlibdhnlmekmhaaGreatDoor.Rd
end
