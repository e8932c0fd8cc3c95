/- Every form is read as the plain reader reads it. | The contract of newParser. | The functions that Read and All defer. | The contract of Read. -/
import Derived.Defers
import Derived.Recover
import Derived.Test.YtlibdhnlmekmhaaGreatDoorMh31
import Derived.Test.YtlibdhnlmekmhaaGreatDoorMh32
import Derived.Test.YtlibdhnlmekmhaaGreatDoorMh33
import Derived.Test.YtlibdhnlmekmhaaGreatDoorMh34
/- Every form is read as the plain reader reads it. -/
section
namespace Go.Proofs.YtlibdhnlmekmhaaGreatDoor.Rd
set_option maxRecDepth 100000
open Go.RowKit
open Go.Proofs.YtlibdhnlmekmhaaGreatDoor.Own Go.Proofs.YtlibdhnlmekmhaaGreatDoor.Hp Go.Proofs.YtlibdhnlmekmhaaGreatDoor.Rep Go.Proofs.YtlibdhnlmekmhaaGreatDoor.Get Go.Proofs.YtlibdhnlmekmhaaGreatDoor.Add Go.Proofs.YtlibdhnlmekmhaaGreatDoor.Make Go.Proofs.YtlibdhnlmekmhaaGreatDoor.Utf Go.Proofs.YtlibdhnlmekmhaaGreatDoor.Strs
open Go.Proofs.YtlibdhnlmekmhaaGreatDoor.Nt hiding Wd

theorem elemM_len {lim : Nat} : ∀ (k o : Nat) (acc : List Wd) (s : St) (l : List Wd) (y : Wd) (s' : St), elemM lim k o acc s = .ok (l, y) s' → l.length ≤ acc.length + s.rest.length
  | 0, _, _, _, _, _, _, h => by cases h
  | k + 1, o, acc, s, l, y, s', h => by
    rw [elemM_succ] at h
    unfold elemG at h
    have hs := (skipF_suf s.rest false).length_le
    split at h
    · cases h; omega
    · split at h
      · unfold tailG at h
        split at h
        · split at h
          · cases h
          · split at h
            · cases h; omega
            · cases h
        · cases h
      · split at h
        · rename_i x s2 hf
          have h1 := elemM_len k o _ _ _ _ _ h
          have h2 := (formM_lt hf).2
          simp only [List.length_append, List.length_cons, List.length_nil] at h1
          have h3 : s2.rest.length < (skipF false s.rest).length := h2
          omega
        · cases h
theorem PS.list {X : Fx} {w : World} {a op : Nat} {s : St} {F : Nat → Prop} (h : PS X w a op s F) (hX : X.Ok) {c0 : Int} {t : List Int} (hr : s.rest = c0 :: t)
    {k : Nat} (hk : 2 * s.rest.length ≤ k) (hF : ∀ j, j < k → FormOk X j) (hnf : NF (listG X.lim (elemM X.lim k (op + 1) []) op s)) :
    Calls Tryz.prog 121 #[pptr X.p] w (Out X w op F retW (listG X.lim (elemM X.lim k (op + 1) []) op s)) := by
  unfold listG at hnf ⊢
  by_cases ho : op = 200
  · rw [if_pos ho]
    exact listE h hX hr hk hF (by omega) (.inl ⟨ho, rfl⟩)
  rw [if_neg ho] at hnf ⊢
  have htl : s.rest.tail = t := by rw [hr]; rfl
  rw [htl] at hnf ⊢
  cases hq : elemM X.lim k (op + 1) [] ⟨t, s.ob, s.tb⟩ with
  | err c m ob tb =>
    rw [hq] at hnf
    exact listE h hX hr hk hF hnf (.inr ⟨ho, hq⟩)
  | ok p s2 =>
    obtain ⟨l, y⟩ := p
    rw [hq] at hnf
    dsimp only at hnf ⊢
    have hlen := elemM_len _ _ _ _ _ _ _ hq
    have hs := hX.short
    have hn := h.n
    have hll : l.length ≤ 1000000 := by
      simp at hlen
      rw [hr] at hn
      simp at hn
      omega
    by_cases h0 : (consR X.lim l.reverse y s2.ob).2.1 = 0
    · rw [if_pos h0]
      have hfit := consR_fits h0 (manyTo_le _ _)
      rw [consR_fold hfit]
      rw [List.length_reverse] at hfit
      exact listO h hX hr hk hF ho hq hll hfit
    · rw [if_neg h0] at hnf
      rcases consR_err (lim := X.lim) (l := l.reverse) (w := y) (ob := s2.ob) with e | e
      · exact (h0 e).elim
      · exact (hnf e).elim

theorem formOk {X : Fx} (hX : X.Ok) (k : Nat) : FormOk X k := by
  induction k using Nat.strongRecOn with
  | ind k ih =>
    intro o N j hj hN w a s F hP hlen hnf
    by_cases hjk : j < k
    · exact ih j hjk o N j (Nat.le_refl _) hN w a s F hP hlen hnf
    obtain rfl : j = k := by omega
    obtain ⟨K, rfl⟩ : ∃ K, j = K + 1 := ⟨j - 1, by omega⟩
    have ihK : ∀ j, j < K → FormOk X j := fun j hj => ih j (by omega)
    rw [formM_succ] at hnf ⊢
    unfold formG at hnf ⊢
    cases hsk : skipF false s.rest with
    | nil => exact form_end hP hX hsk
    | cons c r =>
      rw [hsk] at hnf
      dsimp only at hnf ⊢
      have hsl := (skipF_suf s.rest false).length_le
      rw [hsk] at hsl
      have hcr : 2 * (c :: r).length ≤ K := by omega
      have hF1 : Runs X 68 (o + 1) ((c :: r).length - 1) retW (formM X.lim K (o + 1)) := ih K (Nat.lt_succ_self _) (o + 1) _ K (Nat.le_refl _) (by simp at hcr ⊢; omega)
      have hpos : 1 ≤ (c :: r).length := by simp
      unfold headG at hnf ⊢
      by_cases c40 : c = 40
      · rw [if_pos c40] at hnf ⊢
        exact form_fn hP hX hsk (fn := 121) (by rw [c40]; rfl) (enters_of Tryz.func121 (by kernel_rfl) rfl) fun W a1 h1 => h1.list hX rfl hcr ihK hnf
      rw [if_neg c40] at hnf ⊢
      by_cases c41 : c = 41 ∨ c = 93
      · rw [if_pos c41]
        exact form_fn hP hX hsk (fn := 122) (by rcases c41 with e | e <;> rw [e] <;> rfl) (enters_of Tryz.func122 (by kernel_rfl) rfl) fun W a1 h1 => h1.stray.mono fun e w' ⟨he, hb⟩ => ⟨he, F, (h1.later hb).ht, .of_below hb⟩
      rw [if_neg c41] at hnf ⊢
      by_cases c91 : c = 91
      · rw [if_pos c91] at hnf ⊢
        exact form_fn hP hX hsk (fn := 123) (by rw [c91]; rfl) (enters_of Tryz.func123 (by kernel_rfl) rfl) fun W a1 h1 => h1.vector hX rfl hcr ihK hnf
      rw [if_neg c91] at hnf ⊢
      by_cases c39 : c = 39
      · rw [if_pos c39] at hnf ⊢
        exact form_fn hP hX hsk (fn := 124) (by rw [c39]; rfl) (enters_of Tryz.func124 (by kernel_rfl) rfl) fun W a1 h1 => h1.quote hX hpos hF1 hnf
      rw [if_neg c39] at hnf ⊢
      by_cases c96 : c = 96
      · rw [if_pos c96] at hnf ⊢
        exact form_fn hP hX hsk (fn := 125) (by rw [c96]; rfl) (enters_of Tryz.func125 (by kernel_rfl) rfl) fun W a1 h1 => h1.back hX hpos hF1 hnf
      rw [if_neg c96] at hnf ⊢
      by_cases c44 : c = 44
      · rw [if_pos c44] at hnf ⊢
        exact form_fn hP hX hsk (fn := 126) (by rw [c44]; rfl) (enters_of Tryz.func126 (by kernel_rfl) rfl) fun W a1 h1 => h1.comma hX hpos hF1 hnf
      rw [if_neg c44] at hnf ⊢
      by_cases c35 : c = 35
      · rw [if_pos c35] at hnf ⊢
        exact form_fn hP hX hsk (fn := 127) (by rw [c35]; rfl) (enters_of Tryz.func127 (by kernel_rfl) rfl) fun W a1 h1 => h1.hash hX hpos hF1 hnf
      rw [if_neg c35] at hnf ⊢
      by_cases c34 : c = 34
      · rw [if_pos c34]
        exact form_fn hP hX hsk (fn := 128) (by rw [c34]; rfl) (enters_of Tryz.func128 (by kernel_rfl) rfl) fun W a1 h1 => h1.text hX rfl
      rw [if_neg c34] at hnf ⊢
      by_cases c63 : c = 63
      · rw [if_pos c63]
        exact form_fn hP hX hsk (fn := 129) (by rw [c63]; rfl) (enters_of Tryz.func129 (by kernel_rfl) rfl) fun W a1 h1 => h1.character hX rfl
      rw [if_neg c63]
      obtain ⟨h59, hbl⟩ := skipF_head _ _ _ _ hsk
      have hdel : delimB c = false := by
        unfold delimB
        simp only [hbl, Bool.or_false, Bool.or_eq_false_iff, beq_eq_false_iff_ne]
        simp only [not_or] at c41
        refine ⟨⟨⟨⟨⟨⟨⟨⟨c40, c41.1⟩, c91⟩, c41.2⟩, c34⟩, c39⟩, c96⟩, c44⟩, h59⟩
      exact form_token hP hX hsk (by unfold rdF; rw [if_neg c40, if_neg c41, if_neg c91, if_neg c39, if_neg c96, if_neg c44, if_neg c35, if_neg c34, if_neg c63]) fun W a1 h1 => h1.token hX rfl hdel
end Go.Proofs.YtlibdhnlmekmhaaGreatDoor.Rd
end

/- The contract of newParser. -/
section
namespace Go.Proofs.YtlibdhnlmekmhaaGreatDoor.Rd
set_option maxRecDepth 100000
open Go.RowKit Go.Maps Go.Lib
open Go.Proofs.YtlibdhnlmekmhaaGreatDoor.Own Go.Proofs.YtlibdhnlmekmhaaGreatDoor.Hp Go.Proofs.YtlibdhnlmekmhaaGreatDoor.Rep Go.Proofs.YtlibdhnlmekmhaaGreatDoor.Get Go.Proofs.YtlibdhnlmekmhaaGreatDoor.Add Go.Proofs.YtlibdhnlmekmhaaGreatDoor.Make Go.Proofs.YtlibdhnlmekmhaaGreatDoor.Utf Go.Proofs.YtlibdhnlmekmhaaGreatDoor.Strs Go.Proofs.YtlibdhnlmekmhaaGreatDoor.Clone
open Go.Proofs.YtlibdhnlmekmhaaGreatDoor.Nt hiding Wd

theorem HT.limit {w : World} {base hp lim tp : Nat} {ob : Obs} {tb : Tb} {F : Nat → Prop} (h : HT w base hp lim tp ob tb F) :
    Calls Tryz.prog 118 #[ptr hp] w fun e w' => e = .returned (.int .i64 (lim : Int)) ∧ w = w' := by
  obtain ⟨lh, lt, PH, PT, hH, hT, hd, hF⟩ := h.is
  exact Quick.limit_any hH
theorem HT.tmany {w : World} {base hp lim tp : Nat} {ob : Obs} {tb : Tb} {F : Nat → Prop} (h : HT w base hp lim tp ob tb F) :
    Calls Tryz.prog 26 #[tptr tp] w fun e w' => e = .returned (.int .i64 (tb.syms.length : Int)) ∧ w = w' := by
  obtain ⟨lh, lt, PH, PT, hH, hT, hd, hF⟩ := h.is
  exact Nt.many_any hT
theorem HT.bounds {w : World} {base hp lim tp : Nat} {ob : Obs} {tb : Tb} {F : Nat → Prop} (h : HT w base hp lim tp ob tb F) : 1 ≤ lim ∧ lim ≤ 65536 ∧ tb.syms.length ≤ 16384 := by
  obtain ⟨lh, lt, PH, PT, hH, hT, hd, hF⟩ := h.is
  exact ⟨hH.lim1, hH.lim2, hT.many⟩
/-- The map of the methods that read, as it is made. -/
theorem maps_made (w : World) : ∃ w1 w2 w3 w4 w5 w6 w7 w8 w9 w10 : World,
    (Instr.mapUpdate 89 (.map (some w.heap.size)) (.int .i64 40) (fnv 121)).run Tryz.prog (w.alloc (.map #[] 0)) = .ok () w1 ∧
    (Instr.mapUpdate 89 (.map (some w.heap.size)) (.int .i64 41) (fnv 122)).run Tryz.prog w1 = .ok () w2 ∧
    (Instr.mapUpdate 89 (.map (some w.heap.size)) (.int .i64 91) (fnv 123)).run Tryz.prog w2 = .ok () w3 ∧
    (Instr.mapUpdate 89 (.map (some w.heap.size)) (.int .i64 93) (fnv 122)).run Tryz.prog w3 = .ok () w4 ∧
    (Instr.mapUpdate 89 (.map (some w.heap.size)) (.int .i64 39) (fnv 124)).run Tryz.prog w4 = .ok () w5 ∧
    (Instr.mapUpdate 89 (.map (some w.heap.size)) (.int .i64 96) (fnv 125)).run Tryz.prog w5 = .ok () w6 ∧
    (Instr.mapUpdate 89 (.map (some w.heap.size)) (.int .i64 44) (fnv 126)).run Tryz.prog w6 = .ok () w7 ∧
    (Instr.mapUpdate 89 (.map (some w.heap.size)) (.int .i64 35) (fnv 127)).run Tryz.prog w7 = .ok () w8 ∧
    (Instr.mapUpdate 89 (.map (some w.heap.size)) (.int .i64 34) (fnv 128)).run Tryz.prog w8 = .ok () w9 ∧
    (Instr.mapUpdate 89 (.map (some w.heap.size)) (.int .i64 63) (fnv 129)).run Tryz.prog w9 = .ok () w10 ∧
    Mp.MapOf w10 w.heap.size rdF ∧ Below w.heap.size w w10 := by
  have h0 := Mp.MapOf.made w
  have b0 : Below w.heap.size w (w.alloc (.map #[] 0)) := bel_box _ _
  obtain ⟨w1, e1, h1, g1⟩ := h0.store Mp.mapT (x := 40) (by omega) (fnv 121)
  have b1 : Below w.heap.size w w1 := b0.trans ((Mp.keeps_grown g1).below b0.size fun k hk => by omega)
  obtain ⟨w2, e2, h2, g2⟩ := h1.store Mp.mapT (x := 41) (by omega) (fnv 122)
  have b2 : Below w.heap.size w w2 := b1.trans ((Mp.keeps_grown g2).below b1.size fun k hk => by omega)
  obtain ⟨w3, e3, h3, g3⟩ := h2.store Mp.mapT (x := 91) (by omega) (fnv 123)
  have b3 : Below w.heap.size w w3 := b2.trans ((Mp.keeps_grown g3).below b2.size fun k hk => by omega)
  obtain ⟨w4, e4, h4, g4⟩ := h3.store Mp.mapT (x := 93) (by omega) (fnv 122)
  have b4 : Below w.heap.size w w4 := b3.trans ((Mp.keeps_grown g4).below b3.size fun k hk => by omega)
  obtain ⟨w5, e5, h5, g5⟩ := h4.store Mp.mapT (x := 39) (by omega) (fnv 124)
  have b5 : Below w.heap.size w w5 := b4.trans ((Mp.keeps_grown g5).below b4.size fun k hk => by omega)
  obtain ⟨w6, e6, h6, g6⟩ := h5.store Mp.mapT (x := 96) (by omega) (fnv 125)
  have b6 : Below w.heap.size w w6 := b5.trans ((Mp.keeps_grown g6).below b5.size fun k hk => by omega)
  obtain ⟨w7, e7, h7, g7⟩ := h6.store Mp.mapT (x := 44) (by omega) (fnv 126)
  have b7 : Below w.heap.size w w7 := b6.trans ((Mp.keeps_grown g7).below b6.size fun k hk => by omega)
  obtain ⟨w8, e8, h8, g8⟩ := h7.store Mp.mapT (x := 35) (by omega) (fnv 127)
  have b8 : Below w.heap.size w w8 := b7.trans ((Mp.keeps_grown g8).below b7.size fun k hk => by omega)
  obtain ⟨w9, e9, h9, g9⟩ := h8.store Mp.mapT (x := 34) (by omega) (fnv 128)
  have b9 : Below w.heap.size w w9 := b8.trans ((Mp.keeps_grown g9).below b8.size fun k hk => by omega)
  obtain ⟨w10, e10, h10, g10⟩ := h9.store Mp.mapT (x := 63) (by omega) (fnv 129)
  have b10 : Below w.heap.size w w10 := b9.trans ((Mp.keeps_grown g10).below b9.size fun k hk => by omega)
  refine ⟨w1, w2, w3, w4, w5, w6, w7, w8, w9, w10, e1, e2, e3, e4, e5, e6, e7, e8, e9, e10, h10.congr fun x => ?_, b10⟩
  unfold Mp.upd rdF
  by_cases c40 : x = 40
  · subst c40; rfl
  by_cases c41 : x = 41
  · subst c41; rfl
  by_cases c93 : x = 93
  · subst c93; rfl
  by_cases c91 : x = 91
  · subst c91; rfl
  by_cases c39 : x = 39
  · subst c39; rfl
  by_cases c96 : x = 96
  · subst c96; rfl
  by_cases c44 : x = 44
  · subst c44; rfl
  by_cases c35 : x = 35
  · subst c35; rfl
  by_cases c34 : x = 34
  · subst c34; rfl
  by_cases c63 : x = 63
  · subst c63; rfl
  simp [c40, c41, c93, c91, c39, c96, c44, c35, c34, c63]

/-- What newParser leaves. -/
def Made (w0 w : World) (base hp lim tp : Nat) (ob : Obs) (tb : Tb) (F : Nat → Prop) (l : List Int) (e : Ending) (w' : World) : Prop :=
  ∃ X : Fx, X.Ok ∧ X.w0 = w0 ∧ X.base = base ∧ X.hp = hp ∧ X.lim = lim ∧ X.tp = tp ∧ X.l = l ∧ e = .returned (pptr X.p) ∧ PS X w' 0 0 ⟨l, ob, tb⟩ F ∧ Below w.heap.size w w' ∧ w.heap.size ≤ X.p

set_option maxHeartbeats 2000000 in
theorem newParser_ok {w0 w : World} {base hp lim tp : Nat} {ob : Obs} {tb : Tb} {F : Nat → Prop} (h : HT w base hp lim tp ob tb F) (hb : Below w0.heap.size w0 w) (hbase : w0.heap.size ≤ base) (hS : Sys w0) (h1 : 0 < tb.syms.length)
    (u : ByteArray) (hu : u.size < 1000000) (hv : validD u.data.toList = true) :
    Calls Tryz.prog 65 #[ptr hp, tptr tp, .string u] w (Made w0 w base hp lim tp ob tb F (runes u.data.toList)) := by
  have hbd := h.bounds
  have HL := Lib.hid h.limit
  have HM := Lib.hid h.tmany
  have HLs := Lib.hid (Lst.list_yes u w hu (hS.tabs.below hb) hv)
  have HH := Lib.hid h
  have HB := Lib.hid hb
  have HBa := Lib.hid hbase
  have HS := Lib.hid hS
  have HU := Lib.hid hu
  have HV := Lib.hid hv
  have hmm := @run_makeMap Tryz.prog
  have n1 : ((lim : Int) == 0) = false := beq_eq_false_iff_ne.2 (by omega)
  have n2 : ((tb.syms.length : Int) == 0) = false := beq_eq_false_iff_ne.2 (by omega)
  clear h hb hbase hS hu hv hbd h1
  go_enter Tryz.func65, Tryz.ntmps65
  go_wp2_with (first
    | (go_at_call 118; refine HL.out.mono ?_; rintro e w' ⟨rfl, rfl⟩)
    | (go_at_call 26; refine HM.out.mono ?_; rintro e w' ⟨rfl, rfl⟩))
  refine HLs.out.mono ?_
  rintro e w2 ⟨g, cap, n, rfl, hn, hrow, hb2⟩
  obtain ⟨v1, v2, v3, v4, v5, v6, v7, v8, v9, v10, e1, e2, e3, e4, e5, e6, e7, e8, e9, e10, hm, hbm⟩ := maps_made w2
  have HN := Lib.hid hn
  have HRow := Lib.hid hrow
  have HB2 := Lib.hid hb2
  have HMm := Lib.hid hm
  have HBm := Lib.hid hbm
  clear hn hrow hb2 hm hbm
  go_wp2_with (first
    | (go_at_call 120; refine (check_ok _ _).mono ?_; rintro e w' ⟨rfl, rfl⟩))
  clear e1 e2 e3 e4 e5 e6 e7 e8 e9 e10 hmm n1 n2
  go_ret
  obtain rfl := HN.out
  have hb2 := HB2.out
  have hbm := HBm.out
  have hs2 := hb2.size
  have hsm := hbm.size
  have hbw : Below w.heap.size w v10 := hb2.trans (hbm.mono hs2)
  have hg := HRow.out.lt g rfl
  have hr2 : Row w2 g ((runes u.data.toList).map (Value.int .i64)) := Row.of_owns HRow.out
  have hbb := bel_box v10 (.cells #[ptr hp, tptr tp, Value.slice (some { block := g, off := 0 }) (runes u.data.toList).length cap, Value.int .i64 0, Value.int .i64 0, Value.map (some w2.heap.size)] 91)
  have hbz : Below w.heap.size w (v10.alloc (.cells #[ptr hp, tptr tp, Value.slice (some { block := g, off := 0 }) (runes u.data.toList).length cap, Value.int .i64 0, Value.int .i64 0, Value.map (some w2.heap.size)] 91)) := hbw.trans (hbb.mono hbw.size)
  have hw := HB.out.size
  have hlen : (runes u.data.toList).length ≤ 1000000 := by
    have h1 := runes_length u.data.toList
    have h2 := HU.out
    have h3 := Lib.size_eq u
    omega
  have hmlt := HMm.out.lt
  refine ⟨⟨w0, base, hp, lim, tp, v10.heap.size, g, w2.heap.size, cap, runes u.data.toList⟩, ⟨HS.out, HBa.out, by show w0.heap.size ≤ v10.heap.size; omega, hlen, isC_runes _ HV.out, Nat.ne_of_lt (Nat.lt_of_lt_of_le hg.2 hsm), Nat.ne_of_lt hmlt⟩, rfl, rfl, rfl, rfl, rfl, rfl, rfl, {
    below := HB.out.trans (hbz.mono hw)
    ht := HH.out.below hbz
    blk := Blk.new v10 _ _
    at_ := rfl
    le := Nat.zero_le _
    row := (hr2.below hbm).below hbb
    map := HMm.out.below hbb
    fp := fun e => by have := (HH.out.lt e).2; show False; have e' : v10.heap.size < w.heap.size := this; omega
    fg := fun e => by have := (HH.out.lt e).2; have e' : g < w.heap.size := this; omega
    fm := fun e => by have := (HH.out.lt e).2; have e' : w2.heap.size < w.heap.size := this; omega
    opl := by omega }, hbz, by show w.heap.size ≤ v10.heap.size; omega⟩
end Go.Proofs.YtlibdhnlmekmhaaGreatDoor.Rd
end

/- The functions that Read and All defer. -/
section
namespace Go.Proofs.YtlibdhnlmekmhaaGreatDoor.Rd
set_option maxRecDepth 100000
open Go.RowKit
open Go.Proofs.YtlibdhnlmekmhaaGreatDoor.Own Go.Proofs.YtlibdhnlmekmhaaGreatDoor.Rep

abbrev faultV (c k : Int) : Value := .iface 31 (.agg #[.int .i64 c, .int .i64 k])
theorem assert_fault (c k : Int) (w : World) : (Instr.typeAssert (faultV c k) 20 31 true).run Tryz.prog w = .ok (.tuple #[.agg #[.int .i64 c, .int .i64 k], .bool true]) w := by
  kernel_rfl
theorem assert_nil (w : World) : (Instr.typeAssert .nilIface 20 31 true).run Tryz.prog w = .ok (.tuple #[.agg #[.int .i64 0, .int .i64 0], .bool false]) w := by
  kernel_rfl
theorem catch_read (b : Nat) (x y c k : Int) (older : List PanicEntry) (w : World) (hB : Blk w b #[.int .i64 x, .int .i64 y] 31) :
    CallsD Tryz.prog 64 #[.pointer (some ⟨b, 0, none⟩)] (.panicking ({ v := faultV c k, recovered := false } :: older)) w fun e u' w' =>
      e = .returned (.tuple #[]) ∧ u' = .panicking ({ v := faultV c k, recovered := true } :: older) ∧ w' = (w.setCell ⟨b, 0, none⟩ (.int .i64 c)).setCell ⟨b, 1, none⟩ (.int .i64 k) := by
  obtain ⟨h0, h1, h2, h3⟩ := hB.two
  refine callsD_of_wpS Tryz.func64 rfl fun c₀ cs hu => ?_
  simp only [Tryz.ntmps64, List.size_toArray, List.length_cons, List.length_nil, Nat.reduceAdd, Nat.reduceSub, Array.replicate_succ, Array.replicate_zero, List.push_toArray, List.append_toArray, List.nil_append, List.cons_append]
  apply wpS_region
  simp [wpOpsS, go_sem, recoverD, hu, Exit.thenS, h0, h1, h2, h3, assert_fault]
  simp [bodyPostS, results, Tryz.results64]
theorem idle_read (b : Nat) (x y : Int) (w : World) (hB : Blk w b #[.int .i64 x, .int .i64 y] 31) :
    CallsD Tryz.prog 64 #[.pointer (some ⟨b, 0, none⟩)] .returning w fun e u' w' =>
      e = .returned (.tuple #[]) ∧ u' = .returning ∧ w' = (w.setCell ⟨b, 0, none⟩ (.int .i64 0)).setCell ⟨b, 1, none⟩ (.int .i64 0) := by
  obtain ⟨h0, h1, h2, h3⟩ := hB.two
  refine callsD_of_wpS Tryz.func64 rfl fun c₀ cs hu => ?_
  simp only [Tryz.ntmps64, List.size_toArray, List.length_cons, List.length_nil, Nat.reduceAdd, Nat.reduceSub, Array.replicate_succ, Array.replicate_zero, List.push_toArray, List.append_toArray, List.nil_append, List.cons_append]
  apply wpS_region
  simp [wpOpsS, go_sem, recoverD, hu, Exit.thenS, h0, h1, h2, h3, assert_nil]
  cases c₀
  simp_all [bodyPostS, results, Tryz.results64]
theorem catch_all (b : Nat) (x y c k : Int) (older : List PanicEntry) (w : World) (hB : Blk w b #[.int .i64 x, .int .i64 y] 31) :
    CallsD Tryz.prog 72 #[.pointer (some ⟨b, 0, none⟩)] (.panicking ({ v := faultV c k, recovered := false } :: older)) w fun e u' w' =>
      e = .returned (.tuple #[]) ∧ u' = .panicking ({ v := faultV c k, recovered := true } :: older) ∧ w' = (w.setCell ⟨b, 0, none⟩ (.int .i64 c)).setCell ⟨b, 1, none⟩ (.int .i64 k) := by
  obtain ⟨h0, h1, h2, h3⟩ := hB.two
  refine callsD_of_wpS Tryz.func72 rfl fun c₀ cs hu => ?_
  simp only [Tryz.ntmps72, List.size_toArray, List.length_cons, List.length_nil, Nat.reduceAdd, Nat.reduceSub, Array.replicate_succ, Array.replicate_zero, List.push_toArray, List.append_toArray, List.nil_append, List.cons_append]
  apply wpS_region
  simp [wpOpsS, go_sem, recoverD, hu, Exit.thenS, h0, h1, h2, h3, assert_fault]
  simp [bodyPostS, results, Tryz.results72]
theorem idle_all (b : Nat) (x y : Int) (w : World) (hB : Blk w b #[.int .i64 x, .int .i64 y] 31) :
    CallsD Tryz.prog 72 #[.pointer (some ⟨b, 0, none⟩)] .returning w fun e u' w' =>
      e = .returned (.tuple #[]) ∧ u' = .returning ∧ w' = (w.setCell ⟨b, 0, none⟩ (.int .i64 0)).setCell ⟨b, 1, none⟩ (.int .i64 0) := by
  obtain ⟨h0, h1, h2, h3⟩ := hB.two
  refine callsD_of_wpS Tryz.func72 rfl fun c₀ cs hu => ?_
  simp only [Tryz.ntmps72, List.size_toArray, List.length_cons, List.length_nil, Nat.reduceAdd, Nat.reduceSub, Array.replicate_succ, Array.replicate_zero, List.push_toArray, List.append_toArray, List.nil_append, List.cons_append]
  apply wpS_region
  simp [wpOpsS, go_sem, recoverD, hu, Exit.thenS, h0, h1, h2, h3, assert_nil]
  cases c₀
  simp_all [bodyPostS, results, Tryz.results72]
end Go.Proofs.YtlibdhnlmekmhaaGreatDoor.Rd
end

/- The contract of Read. -/
section
namespace Go.Proofs.YtlibdhnlmekmhaaGreatDoor.Rd
set_option maxRecDepth 100000
open Go.RowKit Go.Maps Go.Lib
open Go.Proofs.YtlibdhnlmekmhaaGreatDoor.Own Go.Proofs.YtlibdhnlmekmhaaGreatDoor.Hp Go.Proofs.YtlibdhnlmekmhaaGreatDoor.Rep Go.Proofs.YtlibdhnlmekmhaaGreatDoor.Get Go.Proofs.YtlibdhnlmekmhaaGreatDoor.Add Go.Proofs.YtlibdhnlmekmhaaGreatDoor.Make Go.Proofs.YtlibdhnlmekmhaaGreatDoor.Utf Go.Proofs.YtlibdhnlmekmhaaGreatDoor.Strs Go.Proofs.YtlibdhnlmekmhaaGreatDoor.Clone
open Go.Proofs.YtlibdhnlmekmhaaGreatDoor.Nt hiding Wd

set_option maxHeartbeats 1000000 in
theorem newParser_no {w : World} {base hp lim tp : Nat} {ob : Obs} {tb : Tb} {F : Nat → Prop} (h : HT w base hp lim tp ob tb F) (hT : Tabs w) (h1 : 0 < tb.syms.length)
    (u : ByteArray) (hu : u.size < 1000000) (hv : validD u.data.toList = false) :
    Calls Tryz.prog 65 #[ptr hp, tptr tp, .string u] w fun e w' => e = faultE 5 0 ∧ Below w.heap.size w w' := by
  have hbd := h.bounds
  have HL := Lib.hid h.limit
  have HM := Lib.hid h.tmany
  have HLs := Lib.hid (Lst.list_no u w (by omega) hT hv)
  have n1 : ((lim : Int) == 0) = false := beq_eq_false_iff_ne.2 (by omega)
  have n2 : ((tb.syms.length : Int) == 0) = false := beq_eq_false_iff_ne.2 (by omega)
  clear h hT hu hv hbd h1
  go_enter Tryz.func65, Tryz.ntmps65
  go_wp2_with (first
    | (go_at_call 118; refine HL.out.mono ?_; rintro e w' ⟨rfl, rfl⟩)
    | (go_at_call 26; refine HM.out.mono ?_; rintro e w' ⟨rfl, rfl⟩))
  refine HLs.out.mono ?_
  rintro e w2 ⟨rfl, hb⟩
  have HB := Lib.hid hb
  clear hb
  go_wp2_with (first
    | (go_at_call 120; refine (check_err 5 (by omega) 0 _).mono ?_; rintro e w' ⟨rfl, rfl⟩; unfold faultE))
  exact ⟨rfl, rfl, HB.out⟩

abbrev fbox0 : Obj := .cells #[.int .i64 0, .int .i64 0] 31
/-- What Read answers, and what it leaves. -/
def ReadOut (w : World) (base hp lim tp : Nat) (F : Nat → Prop) (x : Wd) (en c k : Int) (ob : Obs) (tb : Tb) (e : Ending) (w' : World) : Prop :=
  e = .returned (.tuple #[wd x, .int .i64 en, .agg #[.int .i64 c, .int .i64 k]]) ∧ HTOk w w' base hp lim tp ob tb F

/-- The two boxes of Read's results, and what it has done to the heap and the table. -/
structure RE (w w3 : World) (base hp lim tp : Nat) (F : Nat → Prop) (ob : Obs) (tb : Tb) (n : Nat) : Prop where
  hn : w.heap.size = n
  st : ∃ F', HT w3 base hp lim tp ob tb F' ∧ HAfter w w3 F F F' ∧ ¬ F' n ∧ ¬ F' (n + 1)
  b1 : Blk w3 n #[.int .i64 0, .int .i64 0] 28
  b2 : Blk w3 (n + 1) #[.int .i64 0, .int .i64 0] 31
theorem RE.start {w : World} {base hp lim tp : Nat} {ob : Obs} {tb : Tb} {F : Nat → Prop} (h : HT w base hp lim tp ob tb F) : RE w ((w.alloc wbox0).alloc fbox0) base hp lim tp F ob tb w.heap.size := by
  have hb : Below w.heap.size w ((w.alloc wbox0).alloc fbox0) := ((Below.refl _ _).alloc (Nat.le_refl _) _).alloc (by simp) _
  refine ⟨rfl, ⟨F, h.below hb, .below hb, h.fresh (Nat.le_refl _), h.fresh (Nat.le_succ _)⟩, (Blk.new w _ _).below (bel_box _ _), ?_⟩
  have := Blk.new (w.alloc wbox0) #[.int .i64 0, .int .i64 0] 31
  rwa [World.size_alloc] at this
theorem RE.later {w w3 w4 : World} {base hp lim tp n : Nat} {ob : Obs} {tb : Tb} {F : Nat → Prop} (h : RE w w3 base hp lim tp F ob tb n) (hb : Below w3.heap.size w3 w4) : RE w w4 base hp lim tp F ob tb n := by
  obtain ⟨F', h1, h2, h3, h4⟩ := h.st
  exact ⟨h.hn, ⟨F', h1.below hb, h2.trans (.below (G := F') hb) (fun b hb => h2.grow b hb), h3, h4⟩, h.b1.below hb, h.b2.below hb⟩
theorem RE.fin {w w3 : World} {base hp lim tp n : Nat} {ob : Obs} {tb : Tb} {F : Nat → Prop} (h : RE w w3 base hp lim tp F ob tb n) (x : Wd) (c k : Int) :
    HTOk w ((((w3.setCell ⟨n, 0, none⟩ (.int .i64 x.1)).setCell ⟨n, 1, none⟩ (.int .i64 x.2)).setCell ⟨n + 1, 0, none⟩ (.int .i64 c)).setCell ⟨n + 1, 1, none⟩ (.int .i64 k)) base hp lim tp ob tb F := by
  obtain ⟨F', h1, h2, h3, h4⟩ := h.st
  have hk : Keeps (fun b => b = n ∨ b = n + 1) w3 ((((w3.setCell ⟨n, 0, none⟩ (.int .i64 x.1)).setCell ⟨n, 1, none⟩ (.int .i64 x.2)).setCell ⟨n + 1, 0, none⟩ (.int .i64 c)).setCell ⟨n + 1, 1, none⟩ (.int .i64 k)) :=
    ((((keeps_set w3 n 0 _).trans (keeps_set _ n 1 _)).mono fun b _ e => .inl e).trans ((keeps_set _ (n + 1) 0 _).mono fun b _ e => .inr e)).trans ((keeps_set _ (n + 1) 1 _).mono fun b _ e => .inr e)
  have hn := h.hn
  refine ⟨F', h1.keeps hk fun b e => ?_, ⟨h2.keeps.then hk fun b hlt e => by omega, h2.grow⟩⟩
  rcases e with e | e <;> rw [e] <;> assumption
theorem RE.err {w w3 : World} {base hp lim tp n : Nat} {ob : Obs} {tb : Tb} {F : Nat → Prop} (h : RE w w3 base hp lim tp F ob tb n) (c k : Int) :
    HTOk w ((w3.setCell ⟨n + 1, 0, none⟩ (.int .i64 c)).setCell ⟨n + 1, 1, none⟩ (.int .i64 k)) base hp lim tp ob tb F ∧
    Blk ((w3.setCell ⟨n + 1, 0, none⟩ (.int .i64 c)).setCell ⟨n + 1, 1, none⟩ (.int .i64 k)) n #[.int .i64 0, .int .i64 0] 28 ∧
    Blk ((w3.setCell ⟨n + 1, 0, none⟩ (.int .i64 c)).setCell ⟨n + 1, 1, none⟩ (.int .i64 k)) (n + 1) #[.int .i64 c, .int .i64 k] 31 := by
  obtain ⟨F', h1, h2, h3, h4⟩ := h.st
  have hk : Keeps (fun b => b = n + 1) w3 ((w3.setCell ⟨n + 1, 0, none⟩ (.int .i64 c)).setCell ⟨n + 1, 1, none⟩ (.int .i64 k)) := (keeps_set w3 (n + 1) 0 _).trans (keeps_set _ (n + 1) 1 _)
  have hn := h.hn
  exact ⟨⟨F', h1.keeps hk fun b e => by rw [e]; exact h4, ⟨h2.keeps.then hk fun b hlt e => by omega, h2.grow⟩⟩, h.b1.keeps hk (by omega), by simpa using (h.b2.set 0 (.int .i64 c)).set 1 (.int .i64 k)⟩

set_option maxHeartbeats 2000000 in
theorem read_no {w : World} {base hp lim tp : Nat} {ob : Obs} {tb : Tb} {F : Nat → Prop} (h : HT w base hp lim tp ob tb F) (hT : Tabs w) (h1 : 0 < tb.syms.length)
    (u : ByteArray) (hu : u.size < 1000000) (hv : validD u.data.toList = false) (at_ : Int) :
    Calls Tryz.prog 16 #[ptr hp, tptr tp, .string u, .int .i64 at_] w (ReadOut w base hp lim tp F (0, 0) 0 5 0 ob tb) := by
  have hmf : ∀ (fn : Fn) (first cap : Array Value) (w : World), (Instr.makeFunc fn first cap).run Tryz.prog w = .ok (.func fn first cap) w := fun _ _ _ _ => rfl
  have hb : Below w.heap.size w ((w.alloc wbox0).alloc fbox0) := ((Below.refl _ _).alloc (Nat.le_refl _) _).alloc (by simp) _
  have HN := Lib.hid (newParser_no (h.below hb) (hT.below hb) h1 u hu hv)
  have HE := Lib.hid (RE.start h)
  clear h hT h1 hu hv hb
  go_enter_defers Tryz.func16, Tryz.ntmps16
  go_wp2_with fail
  refine HN.out.mono ?_
  rintro e w3 ⟨rfl, hb3⟩
  have HE3 := Lib.hid (HE.out.later hb3)
  clear hb3
  unfold faultE
  go_wp2_with fail
  refine leaves_cons (f := 64) (args := #[.pointer (some ⟨w.heap.size + 1, 0, none⟩)]) (by simp) (by simp [go_sem]) ?_
  refine (catch_read (w.heap.size + 1) 0 0 5 0 [] _ HE3.out.b2).mono ?_
  rintro e u' w'' ⟨rfl, rfl, rfl⟩
  obtain ⟨hok, hb1, hb2⟩ := HE3.out.err 5 0
  obtain ⟨g0, g1, _, _⟩ := hb1.two
  obtain ⟨f0, f1, _, _⟩ := hb2.two
  simp [Leaves, settle, results, Tryz.results16, go_sem, g0, g1, f0, f1]
  exact ⟨rfl, hok⟩

/-- What Read answers of characters. -/
structure Ans where
  x : Wd
  en : Int
  c : Int
  k : Int
  ob : Obs
  tb : Tb
def ansF (l : List Int) : Res Wd → Ans
  | .ok x s => ⟨x, (l.length : Int) - s.rest.length, 0, 0, s.ob, s.tb⟩
  | .err c m ob tb => ⟨(0, 0), 0, c, ((l.length - m : Nat) : Int), ob, tb⟩
def readR (lim : Nat) (l : List Int) (at_ : Int) (ob : Obs) (tb : Tb) : Ans :=
  if at_ < 0 ∨ (l.length : Int) < at_ then ⟨(0, 0), 0, 3, 0, ob, tb⟩
  else if skipF false (l.drop at_.toNat) = [] then ⟨(0, 0), 0, 13, l.length, ob, tb⟩
  else ansF l (formM lim (2 * l.length + 1) 0 ⟨skipF false (l.drop at_.toNat), ob, tb⟩)
theorem RE.par {w w3 w' : World} {n : Nat} {ob' : Obs} {tb' : Tb} {F F' : Nat → Prop} {X : Fx} (hn : w.heap.size = n) (hb : Below w.heap.size w w3) (b1 : Blk w3 n #[.int .i64 0, .int .i64 0] 28) (b2 : Blk w3 (n + 1) #[.int .i64 0, .int .i64 0] 31) (f1 : ¬ F n) (f2 : ¬ F (n + 1))
    (hp : n + 1 < X.p) (hH : HT w' X.base X.hp X.lim X.tp ob' tb' F') (hA : PAfter X w3 w' F F') : RE w w' X.base X.hp X.lim X.tp F ob' tb' n := by
  have hs := hb.size
  refine ⟨hn, ⟨F', hH, ⟨(Keeps.of_below hb).then hA.keeps fun b hlt e => e.elim id fun e => by omega, fun b hF => ?_⟩, hA.old b1.lt f1, hA.old b2.lt f2⟩, (hA.blk b1 f1 (by omega)).1, (hA.blk b2 f2 (by omega)).1⟩
  rcases hA.grow b hF with e | e
  · exact .inl e
  · exact .inr (by omega)

set_option maxHeartbeats 2000000 in
theorem read_range {w0 w : World} {base hp lim tp : Nat} {ob : Obs} {tb : Tb} {F : Nat → Prop} (h : HT w base hp lim tp ob tb F) (hb : Below w0.heap.size w0 w) (hbase : w0.heap.size ≤ base) (hS : Sys w0) (h1 : 0 < tb.syms.length)
    (u : ByteArray) (hu : u.size < 1000000) (hv : validD u.data.toList = true) {L : List Int} (hL : runes u.data.toList = L) (at_ : Int) (ha : at_ < 0 ∨ (L.length : Int) < at_) :
    Calls Tryz.prog 16 #[ptr hp, tptr tp, .string u, .int .i64 at_] w (ReadOut w base hp lim tp F (0, 0) 0 3 0 ob tb) := by
  have hmf : ∀ (fn : Fn) (first cap : Array Value) (w : World), (Instr.makeFunc fn first cap).run Tryz.prog w = .ok (.func fn first cap) w := fun _ _ _ _ => rfl
  have hb2 : Below w.heap.size w ((w.alloc wbox0).alloc fbox0) := ((Below.refl _ _).alloc (Nat.le_refl _) _).alloc (by simp) _
  have HN := Lib.hid (newParser_ok (h.below hb2) (hb.trans (hb2.mono hb.size)) hbase hS h1 u hu hv)
  rw [hL] at HN
  have HE := Lib.hid (RE.start h)
  have HH := Lib.hid h
  clear h hb hbase hS h1 hu hv hL hb2
  rcases ha with ha | ha
  · have hd : decide (at_ < 0) = true := by simpa using ha
    go_enter_defers Tryz.func16, Tryz.ntmps16
    go_wp2_with fail
    refine HN.out.mono ?_
    rintro e w3 ⟨X, hX, hw0, hbs, hhp, hlm, htp, hl, rfl, hP, hb3, hp3⟩
    have HEq := Lib.hid (show X.base = base ∧ X.hp = hp ∧ X.lim = lim ∧ X.tp = tp ∧ X.l = L from ⟨hbs, hhp, hlm, htp, hl⟩)
    have HX := Lib.hid hX
    have HP := Lib.hid hP
    have HB3 := Lib.hid hb3
    have HE3 := Lib.hid (HE.out.later hb3)
    have hsz : ((w.alloc wbox0).alloc fbox0).heap.size = w.heap.size + 1 + 1 := by simp
    have HXp := Lib.hid (show w.heap.size + 1 < X.p by omega)
    obtain ⟨_, _, c2, c3, _, _⟩ := Blk.six hP.blk
    have f3 := hP.blk.free 3
    have HSh := Lib.hid hX.short
    rw [hl] at c2
    clear hX hw0 hbs hhp hlm htp hl hP hb3 hp3 hsz
    go_wp2_with fail
    refine leaves_cons (f := 64) (args := #[.pointer (some ⟨w.heap.size + 1, 0, none⟩)]) (by simp) (by simp [go_sem]) ?_
    refine (catch_read (w.heap.size + 1) 0 0 3 0 [] _ HE3.out.b2).mono ?_
    rintro e u' w'' ⟨rfl, rfl, rfl⟩
    obtain ⟨hok, hb1, hb2⟩ := HE3.out.err 3 0
    obtain ⟨g0, g1, _, _⟩ := hb1.two
    obtain ⟨f0, f1, _, _⟩ := hb2.two
    simp [Leaves, settle, results, Tryz.results16, go_sem, g0, g1, f0, f1]
    exact ⟨rfl, hok⟩
  · have hd : ¬ at_ < 0 := by omega
    go_enter_defers Tryz.func16, Tryz.ntmps16
    go_wp2_with fail
    refine HN.out.mono ?_
    rintro e w3 ⟨X, hX, hw0, hbs, hhp, hlm, htp, hl, rfl, hP, hb3, hp3⟩
    have HEq := Lib.hid (show X.base = base ∧ X.hp = hp ∧ X.lim = lim ∧ X.tp = tp ∧ X.l = L from ⟨hbs, hhp, hlm, htp, hl⟩)
    have HX := Lib.hid hX
    have HP := Lib.hid hP
    have HB3 := Lib.hid hb3
    have HE3 := Lib.hid (HE.out.later hb3)
    have hsz : ((w.alloc wbox0).alloc fbox0).heap.size = w.heap.size + 1 + 1 := by simp
    have HXp := Lib.hid (show w.heap.size + 1 < X.p by omega)
    obtain ⟨_, _, c2, c3, _, _⟩ := Blk.six hP.blk
    have f3 := hP.blk.free 3
    have HSh := Lib.hid hX.short
    rw [hl] at c2
    clear hX hw0 hbs hhp hlm htp hl hP hb3 hp3 hsz
    go_wp2_with fail
    refine leaves_cons (f := 64) (args := #[.pointer (some ⟨w.heap.size + 1, 0, none⟩)]) (by simp) (by simp [go_sem]) ?_
    refine (catch_read (w.heap.size + 1) 0 0 3 0 [] _ HE3.out.b2).mono ?_
    rintro e u' w'' ⟨rfl, rfl, rfl⟩
    obtain ⟨hok, hb1, hb2⟩ := HE3.out.err 3 0
    obtain ⟨g0, g1, _, _⟩ := hb1.two
    obtain ⟨f0, f1, _, _⟩ := hb2.two
    simp [Leaves, settle, results, Tryz.results16, go_sem, g0, g1, f0, f1]
    exact ⟨rfl, hok⟩
end Go.Proofs.YtlibdhnlmekmhaaGreatDoor.Rd
end
