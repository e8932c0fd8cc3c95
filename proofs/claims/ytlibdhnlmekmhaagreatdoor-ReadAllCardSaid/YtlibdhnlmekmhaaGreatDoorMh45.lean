/- All at a string that is not valid; All as one contract. | ReadAll: what its calls give. | ReadAll: the walk of the statement. | ReadAll: the statement. -/
import Derived.Test.YtlibdhnlmekmhaaGreatDoorMh27
import Derived.Test.YtlibdhnlmekmhaaGreatDoorMh37
import Derived.Test.YtlibdhnlmekmhaaGreatDoorMh44
/- All at a string that is not valid; All as one contract. -/
section
namespace Go.Proofs.YtlibdhnlmekmhaaGreatDoor.Rd
set_option maxRecDepth 100000
open Go.RowKit Go.Maps Go.Lib
open Go.Proofs.YtlibdhnlmekmhaaGreatDoor.Own Go.Proofs.YtlibdhnlmekmhaaGreatDoor.Hp Go.Proofs.YtlibdhnlmekmhaaGreatDoor.Rep Go.Proofs.YtlibdhnlmekmhaaGreatDoor.Get Go.Proofs.YtlibdhnlmekmhaaGreatDoor.Add Go.Proofs.YtlibdhnlmekmhaaGreatDoor.Make Go.Proofs.YtlibdhnlmekmhaaGreatDoor.Utf Go.Proofs.YtlibdhnlmekmhaaGreatDoor.Strs Go.Proofs.YtlibdhnlmekmhaaGreatDoor.Clone
open Go.Proofs.YtlibdhnlmekmhaaGreatDoor.Nt hiding Wd

theorem all_no {w : World} {base hp lim tp : Nat} {ob : Obs} {tb : Tb} {F : Nat → Prop} (h : HT w base hp lim tp ob tb F) (hT : Tabs w) (h1 : 0 < tb.syms.length)
    (u : ByteArray) (hu : u.size < 1000000) (hv : validD u.data.toList = false) :
    Calls Tryz.prog 18 #[ptr hp, tptr tp, .string u] w fun e w' => e = .returned (.tuple #[.slice none 0 0, .agg #[.int .i64 5, .int .i64 0]]) ∧ HTOk w w' base hp lim tp ob tb F := by
  have hmf : ∀ (fn : Fn) (first cap : Array Value) (w : World), (Instr.makeFunc fn first cap).run Tryz.prog w = .ok (.func fn first cap) w := fun _ _ _ _ => rfl
  have hb : Below w.heap.size w (w.alloc fbox0) := bel_box _ _
  have HN := Lib.hid (newParser_no (h.below hb) (hT.below hb) h1 u hu hv)
  have HE : Hid (RB w (w.alloc fbox0) base hp lim tp F F ob tb w.heap.size) := Lib.hid ⟨rfl, ⟨h.below hb, .below hb, h.fresh (Nat.le_refl _)⟩, Blk.new w _ _⟩
  clear h hT h1 hu hv hb
  go_enter_defers Tryz.func18, Tryz.ntmps18
  go_wp2_with fail
  refine HN.out.mono ?_
  rintro e w3 ⟨rfl, hb3⟩
  have HE3 : Hid (RB w w3 base hp lim tp F F ob tb w.heap.size) := by
    obtain ⟨k1, ⟨k2, k3, k4⟩, k5⟩ := HE.out
    have hs : w.heap.size ≤ (w.alloc fbox0).heap.size := by simp
    exact Lib.hid ⟨k1, ⟨k2.below hb3, k3.trans (.below hb3) fun _ h => .inl h, k4⟩, k5.below hb3⟩
  clear hb3
  unfold faultE
  go_wp2_with fail
  refine leaves_cons (f := 72) (args := #[.pointer (some ⟨w.heap.size, 0, none⟩)]) (by simp) (by simp [go_sem]) ?_
  refine (catch_all w.heap.size 0 0 5 0 [] _ HE3.out.b2).mono ?_
  rintro e u' w'' ⟨rfl, rfl, rfl⟩
  have hok := HE3.out.keeps ((keeps_set w3 w.heap.size 0 (.int .i64 5)).trans (keeps_set _ w.heap.size 1 (.int .i64 0)))
  have hb9 : Blk ((w3.setCell ⟨w.heap.size, 0, none⟩ (.int .i64 5)).setCell ⟨w.heap.size, 1, none⟩ (.int .i64 0)) w.heap.size #[.int .i64 5, .int .i64 0] 31 := by simpa using (HE3.out.b2.set 0 (.int .i64 5)).set 1 (.int .i64 0)
  obtain ⟨f0, f1, _, _⟩ := hb9.two
  simp [Leaves, settle, results, Tryz.results18, go_sem, f0, f1]
  exact ⟨F, hok.1, hok.2⟩

/-- What All answers of a string. -/
def allR (lim : Nat) (u : ByteArray) (ob : Obs) (tb : Tb) : Res (List Wd) :=
  allM lim (2 * (runes u.data.toList).length + 1) ((runes u.data.toList).length + 1) [] ⟨runes u.data.toList, ob, tb⟩
theorem all_room (lim k : Nat) : ∀ (j : Nat) (acc : List Wd) (s : St), Ro lim s → s.rest.length < j →
    match allM lim k j acc s with | .ok _ _ => True | .err c _ _ _ => Er c
  | 0, _, _, _, hj => by omega
  | j + 1, acc, s, h, hj => by
    have hsuf := (skipF_suf s.rest false).length_le
    unfold allM
    by_cases hs : skipF false s.rest = []
    · rw [if_pos hs]
      trivial
    · rw [if_neg hs]
      have h' := h.le hsuf
      have hf := form_room (k := k) (o := 0) h'
      cases hq : formM lim k 0 ⟨skipF false s.rest, s.ob, s.tb⟩ with
      | err c m ob tb => rw [hq] at hf; exact hf
      | ok x s2 =>
        rw [hq] at hf
        have := (formM_lt hq).2
        exact all_room lim k j (acc ++ [x]) s2 (h'.next hf) (by simp only at this; omega)
theorem allM_pre (lim k : Nat) : ∀ (j : Nat) (acc : List Wd) (s : St) (l : List Wd) (s' : St), allM lim k j acc s = .ok l s' → acc <+: l
  | 0, _, _, _, _, h => by cases h
  | j + 1, acc, s, l, s', h => by
    unfold allM at h
    by_cases hs : skipF false s.rest = []
    · rw [if_pos hs] at h
      cases h
      exact List.prefix_refl _
    · rw [if_neg hs] at h
      cases hq : formM lim k 0 ⟨skipF false s.rest, s.ob, s.tb⟩ with
      | err c m ob tb => rw [hq] at h; cases h
      | ok x s2 =>
        rw [hq] at h
        exact (List.prefix_append acc [x]).trans (allM_pre lim k j _ _ _ _ h)
end Go.Proofs.YtlibdhnlmekmhaaGreatDoor.Rd
end

/- ReadAll: what its calls give. -/
section
namespace Go.Proofs.YtlibdhnlmekmhaaGreatDoor.Rd
set_option maxRecDepth 100000
open Go.RowKit Go.Maps Go.Lib
open Go.Proofs.YtlibdhnlmekmhaaGreatDoor.Own Go.Proofs.YtlibdhnlmekmhaaGreatDoor.Hp Go.Proofs.YtlibdhnlmekmhaaGreatDoor.Rep Go.Proofs.YtlibdhnlmekmhaaGreatDoor.Get Go.Proofs.YtlibdhnlmekmhaaGreatDoor.Add Go.Proofs.YtlibdhnlmekmhaaGreatDoor.Make Go.Proofs.YtlibdhnlmekmhaaGreatDoor.Utf Go.Proofs.YtlibdhnlmekmhaaGreatDoor.Strs Go.Proofs.YtlibdhnlmekmhaaGreatDoor.Clone Go.Proofs.YtlibdhnlmekmhaaGreatDoor.Car Go.Proofs.YtlibdhnlmekmhaaGreatDoor.Kit
open Go.Proofs.YtlibdhnlmekmhaaGreatDoor.Nt hiding Wd

/-- The row of words that All returns. -/
def RowIs (w : World) (v : Value) (l : List Wd) : Prop :=
  ∃ A c, v = .slice A l.length c ∧ (0 < l.length → ∃ g, A = some ⟨g, 0, none⟩ ∧ ∀ j u, (wcells l)[j]? = some u → w.cell? ⟨g, j, none⟩ = some u)
theorem RowIs.below {w w' : World} {v : Value} {l : List Wd} (h : RowIs w v l) (hb : Below w.heap.size w w') : RowIs w' v l := by
  obtain ⟨A, c, hv, h⟩ := h
  refine ⟨A, c, hv, fun h0 => ?_⟩
  obtain ⟨g, hA, hj⟩ := h h0
  exact ⟨g, hA, fun j u hu => (hb.cell (World.block_lt_of_cell? _ _ (hj j u hu))).trans (hj j u hu)⟩
theorem NS.all_yes {w wr : World} {lim tp : Nat} {ob : Obs} {tb : Tb} (h : NS w wr lim tp ob tb []) (hS : Sys w) (h1 : 0 < tb.syms.length) (u : ByteArray) (hu : u.size < 1000000) (hv : validD u.data.toList = true) {l : List Wd} {s : St} (hR : allR lim u ob tb = .ok l s) :
    Calls Tryz.prog 18 #[ptr w.heap.size, tptr tp, .string u] wr fun e w' => ∃ v, e = .returned (.tuple #[v, .agg #[.int .i64 0, .int .i64 0]]) ∧ RowIs w' v l ∧ NS w w' lim tp s.ob s.tb [] := by
  obtain ⟨F, hH, h2⟩ := h.st
  refine (Rd.all_yes (w0 := w) hH h.below (Nat.le_refl _) hS h1 u hu hv rfl hR trivial).mono ?_
  rintro e w' ⟨A, c, rfl, hrow, F', h3, h4, hmi⟩
  refine ⟨_, rfl, ⟨A, c, rfl, fun h0 => ?_⟩, h.act hH h2 ⟨F', h3, h4⟩⟩
  rcases hrow.2 with ⟨hq, _⟩ | ⟨g, cap, cur, hv2, hg, hb, hrest⟩
  · injection hq with e1 e2 e3
    omega
  · have hvv := hv2
    injection hv2 with e1 e2 e3
    subst e1
    refine ⟨g, rfl, fun j u hu => ?_⟩
    have := hrow.cells rfl j u hu
    rwa [show (⟨g, 0, none⟩ : Addr).add j = ⟨g, j, none⟩ by simp [Addr.add, eq_comm]] at this
theorem NS.all_err {w wr : World} {lim tp : Nat} {ob : Obs} {tb : Tb} (h : NS w wr lim tp ob tb []) (hS : Sys w) (h1 : 0 < tb.syms.length) (u : ByteArray) (hu : u.size < 1000000) (hv : validD u.data.toList = true) {c : Int} {m : Nat} {ob' : Obs} {tb' : Tb} (hR : allR lim u ob tb = .err c m ob' tb') (hc : c ≠ 7) :
    Calls Tryz.prog 18 #[ptr w.heap.size, tptr tp, .string u] wr fun e w' => e = .returned (.tuple #[.slice none 0 0, .agg #[.int .i64 c, .int .i64 (((runes u.data.toList).length - m : Nat) : Int)]]) ∧ NS w w' lim tp ob' tb' [] := by
  obtain ⟨F, hH, h2⟩ := h.st
  refine (Rd.all_yes (w0 := w) hH h.below (Nat.le_refl _) hS h1 u hu hv rfl hR hc).mono ?_
  rintro e w' ⟨rfl, hok⟩
  exact ⟨rfl, h.act hH h2 hok⟩
theorem NS.all_no {w wr : World} {lim tp : Nat} {ob : Obs} {tb : Tb} (h : NS w wr lim tp ob tb []) (hS : Sys w) (h1 : 0 < tb.syms.length) (u : ByteArray) (hu : u.size < 1000000) (hv : validD u.data.toList = false) :
    Calls Tryz.prog 18 #[ptr w.heap.size, tptr tp, .string u] wr fun e w' => e = .returned (.tuple #[.slice none 0 0, .agg #[.int .i64 5, .int .i64 0]]) ∧ NS w w' lim tp ob tb [] := by
  obtain ⟨F, hH, h2⟩ := h.st
  refine (Rd.all_no hH (hS.tabs.below h.below) h1 u hu hv).mono ?_
  rintro e w' ⟨rfl, hok⟩
  exact ⟨rfl, h.act hH h2 hok⟩
/-- Where repeated calls of Read stand: the forms so far, what is left, and what All makes of the rest. -/
structure Rs (lim : Nat) (L : List Int) (R : Res (List Wd)) (acc : List Wd) (a : Nat) (s : St) : Prop where
  suf : s.rest = L.drop a
  le : a ≤ L.length
  rest : ∃ j, s.rest.length < j ∧ allM lim (2 * L.length + 1) j acc s = R
  room : Ro lim s
  pos : 0 < s.tb.syms.length
/-- The next call: the end, an error, or one form more. -/
theorem Rs.step {lim : Nat} {L : List Int} {R : Res (List Wd)} {acc : List Wd} {a : Nat} {s : St} (h : Rs lim L R acc a s) :
    (R = .ok acc ⟨[], s.ob, s.tb⟩ ∧ readR lim L a s.ob s.tb = ⟨(0, 0), 0, 13, L.length, s.ob, s.tb⟩) ∨
    (∃ c m ob tb, R = .err c m ob tb ∧ Er c ∧ readR lim L a s.ob s.tb = ⟨(0, 0), 0, c, ((L.length - m : Nat) : Int), ob, tb⟩) ∨
    (∃ (x : Wd) (b : Nat) (s' : St), a < b ∧ Rs lim L R (acc ++ [x]) b s' ∧ readR lim L a s.ob s.tb = ⟨x, b, 0, 0, s'.ob, s'.tb⟩) := by
  obtain ⟨hsuf, hle, ⟨j, hj, hR⟩, hro, hpos⟩ := h
  obtain ⟨i, rfl⟩ : ∃ i, j = i + 1 := ⟨j - 1, by omega⟩
  obtain ⟨rest, ob, tb⟩ := s
  simp only at hsuf
  have hsk := (skipF_suf rest false).length_le
  have hrd : readR lim L a ob tb = if skipF false rest = [] then ⟨(0, 0), 0, 13, L.length, ob, tb⟩ else ansF L (formM lim (2 * L.length + 1) 0 ⟨skipF false rest, ob, tb⟩) := by
    unfold readR
    rw [if_neg (by omega), Int.toNat_natCast, ← hsuf]
  unfold allM at hR
  simp only at hR hj ⊢
  by_cases hs : skipF false rest = []
  · rw [if_pos hs] at hR hrd
    exact .inl ⟨hR.symm, hrd⟩
  · rw [if_neg hs] at hR hrd
    have hf := form_room (k := 2 * L.length + 1) (o := 0) (hro.le hsk)
    cases hq : formM lim (2 * L.length + 1) 0 ⟨skipF false rest, ob, tb⟩ with
    | err c m ob' tb' =>
      rw [hq] at hR hrd hf
      exact .inr (.inl ⟨c, m, ob', tb', hR.symm, hf, hrd⟩)
    | ok x s' =>
      rw [hq] at hR hrd hf
      have hlt := formM_lt hq
      simp only at hlt
      have h2 : s'.rest <:+ L := (hlt.1.trans (skipF_suf rest false)).trans (by rw [hsuf]; exact List.drop_suffix _ _)
      have h3 := hlt.2
      have h4 := h2.length_le
      have h5 : rest.length = L.length - a := by rw [hsuf, List.length_drop]
      refine .inr (.inr ⟨x, L.length - s'.rest.length, s', by omega, ⟨?_, by omega, ⟨i, by omega, hR⟩, ?_, ?_⟩, ?_⟩)
      · exact (List.suffix_iff_eq_drop.1 h2)
      · exact (hro.le hsk).next hf
      · have := hf.g
        simp only at this hpos
        omega
      · rw [hrd]
        show Ans.mk x ((L.length : Int) - s'.rest.length) 0 0 s'.ob s'.tb = _
        congr 1
        omega
theorem Rs.start {lim : Nat} {L : List Int} {ob : Obs} {tb : Tb} (h : Ro lim ⟨L, ob, tb⟩) (h1 : 0 < tb.syms.length) : Rs lim L (allM lim (2 * L.length + 1) (L.length + 1) [] ⟨L, ob, tb⟩) [] 0 ⟨L, ob, tb⟩ :=
  ⟨rfl, Nat.zero_le _, ⟨_, Nat.lt_succ_self _, rfl⟩, h, h1⟩
theorem Rs.pre {lim : Nat} {L : List Int} {l : List Wd} {s0 : St} {acc : List Wd} {a : Nat} {s : St} (h : Rs lim L (.ok l s0) acc a s) : acc <+: l := by
  obtain ⟨j, _, hR⟩ := h.rest
  exact allM_pre _ _ _ _ _ _ _ hR
end Go.Proofs.YtlibdhnlmekmhaaGreatDoor.Rd
end

/- ReadAll: the walk of the statement. -/
section
namespace Go.Proofs.YtlibdhnlmekmhaaGreatDoor.Rd
set_option maxRecDepth 100000
open Go.RowKit Go.Maps Go.Lib
open Go.Proofs.YtlibdhnlmekmhaaGreatDoor.Own Go.Proofs.YtlibdhnlmekmhaaGreatDoor.Hp Go.Proofs.YtlibdhnlmekmhaaGreatDoor.Rep Go.Proofs.YtlibdhnlmekmhaaGreatDoor.Get Go.Proofs.YtlibdhnlmekmhaaGreatDoor.Add Go.Proofs.YtlibdhnlmekmhaaGreatDoor.Make Go.Proofs.YtlibdhnlmekmhaaGreatDoor.Utf Go.Proofs.YtlibdhnlmekmhaaGreatDoor.Strs Go.Proofs.YtlibdhnlmekmhaaGreatDoor.Clone Go.Proofs.YtlibdhnlmekmhaaGreatDoor.Car Go.Proofs.YtlibdhnlmekmhaaGreatDoor.Kit
open Go.Proofs.YtlibdhnlmekmhaaGreatDoor.Nt hiding Wd

theorem NS.drop {w wr : World} {lim tp : Nat} {ob : Obs} {tb : Tb} {bs : List Bx} (h : NS w wr lim tp ob tb bs) : NS w wr lim tp ob tb [] := by
  obtain ⟨F, h1, _⟩ := h.st
  exact ⟨h.below, ⟨F, h1, by simp⟩, by simp⟩
theorem wcells_two : ∀ (l : List Wd) (i : Nat) (x : Wd), l[i]? = some x → (wcells l)[i * 2]? = some (.int .i64 x.1) ∧ (wcells l)[i * 2 + 1]? = some (.int .i64 x.2)
  | [], _, _, h => by simp at h
  | y :: l, 0, x, h => by
    simp at h
    subst h
    exact ⟨rfl, rfl⟩
  | y :: l, i + 1, x, h => by
    have := wcells_two l i x (by simpa using h)
    rw [show (i + 1) * 2 = i * 2 + 2 by omega]
    exact this
set_option maxHeartbeats 1000000 in
theorem all_light (s : ByteArray) (w : World) (hs : s.size ≤ maxLen) (hS : Sys w) (h : 1500 < s.size) :
    Calls Tryz.prog 5 #[.string s] w fun e w' => e = .returned (.bool true) ∧ Below w.heap.size w w' := by
  have HL := Lib.hid (lives_any w hS)
  have hg : decide ((1500 : Int) < (s.size : Int)) = true := by simp; omega
  clear hS h
  go_enter Tryz.func5, Tryz.ntmps5
  go_wp2_with fail
  refine HL.out.mono ?_
  rintro e w1 ⟨rfl, hb1⟩
  have HB := Lib.hid hb1
  clear hb1
  go_wp2_with fail
  go_ret
  exact ⟨rfl, HB.out⟩

set_option maxHeartbeats 8000000 in
theorem all_bad (s : ByteArray) (w : World) (hs : s.size ≤ 1500) (hv : validD s.data.toList = false) (hS : Sys w) :
    Calls Tryz.prog 5 #[.string s] w fun e w' => e = .returned (.bool true) ∧ Below w.heap.size w w' := by
  have HL := Lib.hid (lives_any w hS)
  have HS0 := Lib.hid hS
  have hg : decide ((1500 : Int) < (s.size : Int)) = false := by simp; omega
  have h0 : 0 < t0.syms.length := by rw [t0_length]; omega
  have HT0 := Lib.hid h0
  have HSz := Lib.hid hs
  have HVd := Lib.hid hv
  clear hS hs hv h0
  go_enter Tryz.func5, Tryz.ntmps5
  go_wp2_with fail
  refine HL.out.mono ?_
  rintro e w1 ⟨rfl, hb1⟩
  have HB1 := Lib.hid hb1
  have HS := Lib.hid (HS0.out.below hb1)
  clear hb1
  go_wp2_with fail
  refine (FStep.of (lim := 3200) (by omega) (by omega) w1 HS.out.tabs).mono ?_
  rintro e w2 ⟨tp, rfl, hN⟩
  have HN := Lib.hid hN
  clear hN
  go_wp2_with fail
  refine (HN.out.all_no HS.out HT0.out s (by have := HSz.out; omega) HVd.out).mono ?_
  rintro e u1 ⟨rfl, hn⟩
  have hn2 := hn.fault 5 0
  clear HN hn
  have HN0 := Lib.hid hn2
  clear hn2
  go_wp2_with fail
  obtain ⟨v6, hv6⟩ : ∃ v, u1.alloc (fob 5 0) = v := ⟨_, rfl⟩
  have hn2 := HN0.out
  rw [hv6] at hn2
  rw [hv6]
  have HN := Lib.hid hn2
  have HS6 := Lib.hid (HS.out.below hn2.below)
  clear hn2 HN0 hv6
  refine (FStep.of (lim := 3200) (by omega) (by omega) v6 HS6.out.tabs).mono ?_
  rintro e w3 ⟨tp2, rfl, hN⟩
  have HM := Lib.hid hN
  clear hN
  go_wp2_with fail
  go_loopw [9, 10] (fun a i wr => a = .int .i64 0 ∧ i = .int .i64 0 ∧ Hid (wr = w3)) (fun _ _ _ => 0)
  case atStart => exact ⟨rfl, rfl, Lib.hid rfl⟩
  case round =>
    obtain ⟨rfl, rfl, hw⟩ := hrel
    have hw' := hw.out
    subst hw'
    go_wp2_with fail
    refine (HM.out.read_no HS6.out HT0.out s (by have := HSz.out; omega) HVd.out 0).mono ?_
    rintro e u2 ⟨rfl, hn⟩
    have hm := hn.two 0 0 5 0
    obtain ⟨q0, q1, _, _⟩ := (hm.box (fbx (u2.heap.size + 1) 5 0) (by simp)).two
    obtain ⟨p0, p1, _, _⟩ := ((HN.out.later hm.below).box (fbx u1.heap.size 5 0) (by simp)).two
    have HX := Lib.hid (HB1.out.trans ((HN.out.later hm.below).below.mono HB1.out.size))
    clear hn hm
    go_wp2_with fail
    go_ret
    exact ⟨rfl, HX.out⟩

set_option maxHeartbeats 8000000 in
theorem all_ok (s : ByteArray) (w : World) (hs : s.size ≤ 1500) (hv : validD s.data.toList = true) (hS : Sys w) {l : List Wd} {s0 : St} (hR : allR 3200 s Quick.noObs t0 = .ok l s0) :
    Calls Tryz.prog 5 #[.string s] w fun e w' => e = .returned (.bool true) ∧ Below w.heap.size w w' := by
  have HL := Lib.hid (lives_any w hS)
  have HS0 := Lib.hid hS
  have hg : decide ((1500 : Int) < (s.size : Int)) = false := by simp; omega
  have h0 : 0 < t0.syms.length := by rw [t0_length]; omega
  have HT0 := Lib.hid h0
  have HSz := Lib.hid hs
  have HVd := Lib.hid hv
  obtain ⟨L, hL⟩ : ∃ L, runes s.data.toList = L := ⟨_, rfl⟩
  have hll := runes_length s.data.toList
  rw [← Lib.size_eq, hL] at hll
  have hst := Rs.start (room_new (L := L) (lim := 3200) (by omega) (by omega)) h0
  have hRe := hR
  unfold allR at hRe
  rw [hL] at hRe
  rw [hRe] at hst
  have HSt := Lib.hid hst
  have HL2 := Lib.hid hL
  have HR := Lib.hid hR
  have HLs := Lib.hid hll
  clear hst hRe hR hll hL
  clear hS hs hv h0
  go_enter Tryz.func5, Tryz.ntmps5
  go_wp2_with fail
  refine HL.out.mono ?_
  rintro e w1 ⟨rfl, hb1⟩
  have HB1 := Lib.hid hb1
  have HS := Lib.hid (HS0.out.below hb1)
  clear hb1
  go_wp2_with fail
  refine (FStep.of (lim := 3200) (by omega) (by omega) w1 HS.out.tabs).mono ?_
  rintro e w2 ⟨tp, rfl, hN⟩
  have HN := Lib.hid hN
  clear hN
  go_wp2_with fail
  refine (HN.out.all_yes HS.out HT0.out s (by have := HSz.out; omega) HVd.out HR.out).mono ?_
  rintro e u1 ⟨v, rfl, hrow, hn⟩
  have HRow := Lib.hid hrow
  have hvl : ∃ A c, v = .slice A l.length c := by obtain ⟨A, c, e, _⟩ := hrow; exact ⟨A, c, e⟩
  obtain ⟨A, c, rfl⟩ := hvl
  clear hrow
  have hn2 := hn.fault 0 0
  clear HN hn
  have HN0 := Lib.hid hn2
  clear hn2
  go_wp2_with fail
  obtain ⟨v6, hv6⟩ : ∃ v, u1.alloc (fob 0 0) = v := ⟨_, rfl⟩
  have hn2 := HN0.out
  rw [hv6] at hn2
  rw [hv6]
  have HN := Lib.hid hn2
  have HS6 := Lib.hid (HS.out.below hn2.below)
  have HRw := Lib.hid (HRow.out.below (by rw [← hv6]; exact bel_box _ _ : Below u1.heap.size u1 v6))
  clear hn2 HN0 hv6
  refine (FStep.of (lim := 3200) (by omega) (by omega) v6 HS6.out.tabs).mono ?_
  rintro e w3 ⟨tp2, rfl, hN⟩
  have HM := Lib.hid hN
  clear hN
  go_wp2_with fail
  go_loopw [9, 10] (fun a i wr => ∃ (acc : List Wd) (p : Nat) (st : St), a = .int .i64 (p : Int) ∧ i = .int .i64 (acc.length : Int) ∧ p ≤ L.length ∧ acc.length ≤ p ∧ Hid (Rs 3200 L (.ok l s0) acc p st) ∧ Hid (NS v6 wr 3200 tp2 st.ob st.tb [])) (fun a _ _ => L.length - (intOf a).toNat)
  case atStart => exact ⟨[], 0, _, rfl, rfl, Nat.zero_le _, Nat.le_refl _, HSt, HM⟩
  case round =>
    obtain ⟨acc, p, st, rfl, rfl, hp, hap, HRs, HM2⟩ := hrel
    have h1 : 0 < st.tb.syms.length := HRs.out.pos
    rcases HRs.out.step with ⟨hre, hrd⟩ | ⟨c, m, ob, tb, hre, her, hrd⟩ | ⟨x, b, st', hab, hrs, hrd⟩
    · injection hre with e1 e2
      subst e1
      subst e2
      have HC := Lib.hid (RStep.of (lim := 3200) h1 (by have := HSz.out; omega) HVd.out ((congrArg (fun q => readR 3200 q (p : Int) st.ob st.tb) HL2.out).trans hrd) (x := (0, 0)) (en := 0) (c := 13) (k := (L.length : Int)) rfl (by decide))
      clear hrd
      go_wp2_with fail
      refine (HC.out _ _ tp2 _ HS6.out HM2.out).mono ?_
      rintro e u2 ⟨rfl, hn⟩
      have hm := hn.two 0 0 13 (L.length : Int)
      have HM3 := Lib.hid hm
      have HN3 := Lib.hid (HN.out.later hm.below)
      have HX := Lib.hid (HB1.out.trans ((HN.out.later hm.below).below.mono HB1.out.size))
      obtain ⟨q0, q1, _, _⟩ := (HM3.out.box (fbx (u2.heap.size + 1) 13 (L.length : Int)) (by simp)).two
      obtain ⟨p0, p1, _, _⟩ := (HN3.out.box (fbx u1.heap.size 0 0) (by simp)).two
      clear hn hm
      have HA1 := Lib.hid HM3.out.many
      have HA2 := Lib.hid HN3.out.many
      have HA3 := Lib.hid HM3.out.tmany
      have HA4 := Lib.hid HN3.out.tmany
      go_wp2_with fail
      obtain ⟨v7, hv7⟩ : ∃ v, (u2.alloc (wob 0 0)).alloc (fob 13 (L.length : Int)) = v := ⟨_, rfl⟩
      have hm3 := HM3.out
      have hn3 := HN3.out
      rw [hv7] at hm3 hn3 ⊢
      have HM4 := Lib.hid hm3
      have HN4 := Lib.hid hn3
      clear hm3 hn3 HM3 HN3 hv7 HX q0 q1 p0 p1
      refine (HM4.out.many v7 (Below.refl _ _)).mono ?_
      rintro e w6 ⟨rfl, hb6⟩
      have HB6 := Lib.hid hb6
      clear hb6
      go_wp2_with fail
      refine (HN4.out.many w6 HB6.out).mono ?_
      rintro e w7 ⟨rfl, hb7⟩
      have HB7 := Lib.hid (HB6.out.trans (hb7.mono HB6.out.size))
      clear hb7
      go_wp2_with fail
      refine (HM4.out.tmany w7 HB7.out).mono ?_
      rintro e w8 ⟨rfl, hb8⟩
      have HB8 := Lib.hid (HB7.out.trans (hb8.mono HB7.out.size))
      clear hb8
      go_wp2_with fail
      refine (HN4.out.tmany w8 HB8.out).mono ?_
      rintro e w9 ⟨rfl, hb9⟩
      have HB9 := Lib.hid (HB8.out.trans (hb9.mono HB8.out.size))
      clear hb9
      go_wp2_with fail
      go_ret
      exact ⟨rfl, HB1.out.trans ((HN4.out.below.trans (HB9.out.mono HN4.out.below.size)).mono HB1.out.size)⟩
    · cases hre
    · have hbL : b ≤ L.length := hrs.le
      have HRs2 := Lib.hid hrs
      obtain ⟨x0, x1⟩ := x
      have HC := Lib.hid (RStep.of (lim := 3200) h1 (by have := HSz.out; omega) HVd.out ((congrArg (fun q => readR 3200 q (p : Int) st.ob st.tb) HL2.out).trans hrd) (x := (x0, x1)) (en := (b : Int)) (c := 0) (k := 0) rfl (by decide))
      clear hrd
      go_wp2_with fail
      refine (HC.out _ _ tp2 _ HS6.out HM2.out).mono ?_
      rintro e u2 ⟨rfl, hn⟩
      have hm := hn.two x0 x1 0 0
      have HM3 := Lib.hid hm
      have HN3 := Lib.hid (HN.out.later hm.below)
      have HX := Lib.hid (HB1.out.trans ((HN.out.later hm.below).below.mono HB1.out.size))
      obtain ⟨q0, q1, _, _⟩ := (HM3.out.box (fbx (u2.heap.size + 1) 0 0) (by simp)).two
      obtain ⟨p0, p1, _, _⟩ := (HN3.out.box (fbx u1.heap.size 0 0) (by simp)).two
      clear hn hm
      have hpre := HRs2.out.pre
      have hlen : acc.length < l.length := by have := hpre.length_le; simp at this; omega
      have hlx : l[acc.length]? = some (x0, x1) := by
        obtain ⟨q, rfl⟩ := hpre
        simp
      have hlz : (acc.length : Int) < (l.length : Int) := by omega
      have hge : decide ((l.length : Int) ≤ (acc.length : Int)) = false := by simp; omega
      have hge2 : ¬ l.length ≤ acc.length := by omega
      obtain ⟨A', c', hv', hrow⟩ := (HRw.out.below HM3.out.below)
      injection hv' with e1 e2 e3
      subst e1 e3
      obtain ⟨g, rfl, hg⟩ := hrow (by omega)
      obtain ⟨hw0, hw1⟩ := wcells_two l acc.length (x0, x1) hlx
      have r0 := hg _ _ hw0
      have r1 := hg _ _ hw1
      have hle : decide ((b : Int) ≤ (p : Int)) = false := by simp; omega
      have hle2 : ¬ b ≤ p := by omega
      have hwi : wrap64 ((acc.length : Int) + 1) = (acc.length : Int) + 1 := by have := HSz.out; have := HLs.out; unfold wrap64; omega
      have HAB := Lib.hid (show p < b ∧ b ≤ L.length ∧ acc.length ≤ p from ⟨hab, hbL, hap⟩)
      clear hab hbL hap hp HRs hpre hlx hrow hg hw0 hw1
      go_wp2_with fail
      obtain ⟨v7, hv7⟩ : ∃ v, (u2.alloc (wob x0 x1)).alloc (fob 0 0) = v := ⟨_, rfl⟩
      have hm3 := HM3.out
      have hn3 := HN3.out
      rw [hv7] at hm3 hn3 ⊢
      rw [hv7] at r0 r1
      have R0 := fun y : Grown v7 => (y.below.cell (World.block_lt_of_cell? _ _ r0)).trans r0
      have R1 := fun y : Grown v7 => (y.below.cell (World.block_lt_of_cell? _ _ r1)).trans r1
      clear r0 r1
      have HM4 := Lib.hid hm3
      have P0 := hn3.cell (fbx u1.heap.size 0 0) (by simp) 0 _ rfl
      have P1 := hn3.cell (fbx u1.heap.size 0 0) (by simp) 1 _ rfl
      have Q0 := hm3.cell (wbx u2.heap.size x0 x1) (by simp) 0 _ rfl
      have Q1 := hm3.cell (wbx u2.heap.size x0 x1) (by simp) 1 _ rfl
      clear hm3 hn3 HM3 HN3 hv7 HX q0 q1 p0 p1
      refine wp_region_grown v7 (Below.refl _ _) (by kernel_rfl) (by kernel_rfl) ?_
      repeat (go_big_quiet_step (fail))
      refine wpQuiet_nil ?_
      rintro _ ⟨y, rfl⟩
      have HY := Lib.hid (HM4.out.later y.below).drop
      clear P0 P1 Q0 Q1 R0 R1
      go_wp2_with fail
      go_roundw
      case rel => exact ⟨acc ++ [(x0, x1)], b, st', rfl, by rw [hwi]; simp, HAB.out.2.1, by have := HAB.out; simp; omega, HRs2, HY⟩
      case measure => have := HAB.out; simp [intOf]; omega

set_option maxHeartbeats 8000000 in
theorem all_err (s : ByteArray) (w : World) (hs : s.size ≤ 1500) (hv : validD s.data.toList = true) (hS : Sys w) {c0 : Int} {m0 : Nat} {ob0 : Obs} {tb0 : Tb} (hR : allR 3200 s Quick.noObs t0 = .err c0 m0 ob0 tb0) (hE : Er c0) :
    Calls Tryz.prog 5 #[.string s] w fun e w' => e = .returned (.bool true) ∧ Below w.heap.size w w' := by
  have HL := Lib.hid (lives_any w hS)
  have HS0 := Lib.hid hS
  have hg : decide ((1500 : Int) < (s.size : Int)) = false := by simp; omega
  have h0 : 0 < t0.syms.length := by rw [t0_length]; omega
  have HT0 := Lib.hid h0
  have HSz := Lib.hid hs
  have HVd := Lib.hid hv
  obtain ⟨L, hL⟩ : ∃ L, runes s.data.toList = L := ⟨_, rfl⟩
  have hll := runes_length s.data.toList
  rw [← Lib.size_eq, hL] at hll
  have hst := Rs.start (room_new (L := L) (lim := 3200) (by omega) (by omega)) h0
  have hRe := hR
  unfold allR at hRe
  rw [hL] at hRe
  rw [hRe] at hst
  have HSt := Lib.hid hst
  have HL2 := Lib.hid hL
  have HR := Lib.hid hR
  have HLs := Lib.hid hll
  clear hst hRe hR hll hL
  have HE := Lib.hid hE
  have hc0 : (c0 == 0) = false := by rcases hE with rfl | rfl | rfl | rfl <;> rfl
  clear hE
  clear hS hs hv h0
  go_enter Tryz.func5, Tryz.ntmps5
  go_wp2_with fail
  refine HL.out.mono ?_
  rintro e w1 ⟨rfl, hb1⟩
  have HB1 := Lib.hid hb1
  have HS := Lib.hid (HS0.out.below hb1)
  clear hb1
  go_wp2_with fail
  refine (FStep.of (lim := 3200) (by omega) (by omega) w1 HS.out.tabs).mono ?_
  rintro e w2 ⟨tp, rfl, hN⟩
  have HN := Lib.hid hN
  clear hN
  go_wp2_with fail
  refine (HN.out.all_err HS.out HT0.out s (by have := HSz.out; omega) HVd.out HR.out (by rcases HE.out with h | h | h | h <;> omega)).mono ?_
  rintro e u1 ⟨rfl, hn⟩
  rw [HL2.out]
  obtain ⟨kk, hkk⟩ : ∃ kk : Int, ((L.length - m0 : Nat) : Int) = kk := ⟨_, rfl⟩
  have HKk := Lib.hid hkk
  rw [hkk]
  have hn2 := hn.fault c0 kk
  clear HN hn
  have HN0 := Lib.hid hn2
  clear hn2
  go_wp2_with fail
  obtain ⟨v6, hv6⟩ : ∃ v, u1.alloc (fob c0 kk) = v := ⟨_, rfl⟩
  have hn2 := HN0.out
  rw [hv6] at hn2
  rw [hv6]
  have HN := Lib.hid hn2
  have HS6 := Lib.hid (HS.out.below hn2.below)
  clear hn2 HN0 hv6
  refine (FStep.of (lim := 3200) (by omega) (by omega) v6 HS6.out.tabs).mono ?_
  rintro e w3 ⟨tp2, rfl, hN⟩
  have HM := Lib.hid hN
  clear hN
  go_wp2_with fail
  go_loopw [9, 10] (fun a i wr => ∃ (acc : List Wd) (p : Nat) (st : St), a = .int .i64 (p : Int) ∧ i = .int .i64 (acc.length : Int) ∧ p ≤ L.length ∧ acc.length ≤ p ∧ Hid (Rs 3200 L (.err c0 m0 ob0 tb0) acc p st) ∧ Hid (NS v6 wr 3200 tp2 st.ob st.tb [])) (fun a _ _ => L.length - (intOf a).toNat)
  case atStart => exact ⟨[], 0, _, rfl, rfl, Nat.zero_le _, Nat.le_refl _, HSt, HM⟩
  case round =>
    obtain ⟨acc, p, st, rfl, rfl, hp, hap, HRs, HM2⟩ := hrel
    have h1 : 0 < st.tb.syms.length := HRs.out.pos
    rcases HRs.out.step with ⟨hre, hrd⟩ | ⟨c, m, ob, tb, hre, her, hrd⟩ | ⟨x, b, st', hab, hrs, hrd⟩
    · cases hre
    · injection hre with e1 e2 e3 e4
      subst e1 e2 e3 e4
      rw [HKk.out] at hrd
      have hc13 : (c0 == 13) = false := by rcases HE.out with rfl | rfl | rfl | rfl <;> rfl
      have HC := Lib.hid (RStep.of (lim := 3200) h1 (by have := HSz.out; omega) HVd.out ((congrArg (fun q => readR 3200 q (p : Int) st.ob st.tb) HL2.out).trans hrd) (x := (0, 0)) (en := 0) (c := c0) (k := kk) rfl (by rcases HE.out with h | h | h | h <;> omega))
      clear hrd
      go_wp2_with fail
      refine (HC.out _ _ tp2 _ HS6.out HM2.out).mono ?_
      rintro e u2 ⟨rfl, hn⟩
      have hm := hn.two 0 0 c0 kk
      have HM3 := Lib.hid hm
      have HN3 := Lib.hid (HN.out.later hm.below)
      have HX := Lib.hid (HB1.out.trans ((HN.out.later hm.below).below.mono HB1.out.size))
      obtain ⟨q0, q1, _, _⟩ := (HM3.out.box (fbx (u2.heap.size + 1) c0 kk) (by simp)).two
      obtain ⟨p0, p1, _, _⟩ := (HN3.out.box (fbx u1.heap.size c0 kk) (by simp)).two
      clear hn hm
      go_wp2_with fail
      go_ret
      exact ⟨rfl, HX.out⟩
    · have hbL : b ≤ L.length := hrs.le
      have HRs2 := Lib.hid hrs
      obtain ⟨x0, x1⟩ := x
      have HC := Lib.hid (RStep.of (lim := 3200) h1 (by have := HSz.out; omega) HVd.out ((congrArg (fun q => readR 3200 q (p : Int) st.ob st.tb) HL2.out).trans hrd) (x := (x0, x1)) (en := (b : Int)) (c := 0) (k := 0) rfl (by decide))
      clear hrd
      go_wp2_with fail
      refine (HC.out _ _ tp2 _ HS6.out HM2.out).mono ?_
      rintro e u2 ⟨rfl, hn⟩
      have hm := hn.two x0 x1 0 0
      have HM3 := Lib.hid hm
      have HN3 := Lib.hid (HN.out.later hm.below)
      have HX := Lib.hid (HB1.out.trans ((HN.out.later hm.below).below.mono HB1.out.size))
      obtain ⟨q0, q1, _, _⟩ := (HM3.out.box (fbx (u2.heap.size + 1) 0 0) (by simp)).two
      obtain ⟨p0, p1, _, _⟩ := (HN3.out.box (fbx u1.heap.size c0 kk) (by simp)).two
      clear hn hm
      have hle : decide ((b : Int) ≤ (p : Int)) = false := by simp; omega
      have hle2 : ¬ b ≤ p := by omega
      have hwi : wrap64 ((acc.length : Int) + 1) = (acc.length : Int) + 1 := by have := HSz.out; have := HLs.out; unfold wrap64; omega
      have HAB := Lib.hid (show p < b ∧ b ≤ L.length ∧ acc.length ≤ p from ⟨hab, hbL, hap⟩)
      clear hab hbL hap hp HRs
      go_wp2_with fail
      obtain ⟨v7, hv7⟩ : ∃ v, (u2.alloc (wob x0 x1)).alloc (fob 0 0) = v := ⟨_, rfl⟩
      have hm3 := HM3.out
      have hn3 := HN3.out
      rw [hv7] at hm3 hn3 ⊢
      have HM4 := Lib.hid hm3
      have P0 := hn3.cell (fbx u1.heap.size c0 kk) (by simp) 0 _ rfl
      have P1 := hn3.cell (fbx u1.heap.size c0 kk) (by simp) 1 _ rfl
      have Q0 := hm3.cell (wbx u2.heap.size x0 x1) (by simp) 0 _ rfl
      have Q1 := hm3.cell (wbx u2.heap.size x0 x1) (by simp) 1 _ rfl
      clear hm3 hn3 HM3 HN3 hv7 HX q0 q1 p0 p1
      refine wp_region_grown v7 (Below.refl _ _) (by kernel_rfl) (by kernel_rfl) ?_
      repeat (go_big_quiet_step (fail))
      refine wpQuiet_nil ?_
      rintro _ ⟨y, rfl⟩
      have HY := Lib.hid (HM4.out.later y.below).drop
      clear P0 P1 Q0 Q1
      go_wp2_with fail
      go_roundw
      case rel => exact ⟨acc ++ [(x0, x1)], b, st', rfl, by rw [hwi]; simp, HAB.out.2.1, by have := HAB.out; simp; omega, HRs2, HY⟩
      case measure => have := HAB.out; simp [intOf]; omega
end Go.Proofs.YtlibdhnlmekmhaaGreatDoor.Rd
end

/- ReadAll: the statement. -/
section
namespace Go.Proofs.YtlibdhnlmekmhaaGreatDoor.Rd
set_option maxRecDepth 100000
open Go.RowKit Go.Maps Go.Lib
open Go.Proofs.YtlibdhnlmekmhaaGreatDoor.Own Go.Proofs.YtlibdhnlmekmhaaGreatDoor.Hp Go.Proofs.YtlibdhnlmekmhaaGreatDoor.Rep Go.Proofs.YtlibdhnlmekmhaaGreatDoor.Get Go.Proofs.YtlibdhnlmekmhaaGreatDoor.Add Go.Proofs.YtlibdhnlmekmhaaGreatDoor.Make Go.Proofs.YtlibdhnlmekmhaaGreatDoor.Utf Go.Proofs.YtlibdhnlmekmhaaGreatDoor.Strs Go.Proofs.YtlibdhnlmekmhaaGreatDoor.Clone Go.Proofs.YtlibdhnlmekmhaaGreatDoor.Car Go.Proofs.YtlibdhnlmekmhaaGreatDoor.Kit
open Go.Proofs.YtlibdhnlmekmhaaGreatDoor.Nt hiding Wd

theorem all_walk (s : ByteArray) (w : World) (hs : s.size ≤ maxLen) (hS : Sys w) :
    Calls Tryz.prog 5 #[.string s] w fun e w' => e = .returned (.bool true) ∧ Below w.heap.size w w' := by
  by_cases h1 : 1500 < s.size
  · exact all_light s w hs hS h1
  have hs2 : s.size ≤ 1500 := by omega
  cases hv : validD s.data.toList with
  | false => exact all_bad s w hs2 hv hS
  | true =>
    have hll := runes_length s.data.toList
    rw [← Lib.size_eq] at hll
    cases hR : allR 3200 s Quick.noObs t0 with
    | ok l s0 => exact all_ok s w hs2 hv hS hR
    | err c m ob tb =>
      have hE := all_room 3200 (2 * (runes s.data.toList).length + 1) ((runes s.data.toList).length + 1) [] ⟨runes s.data.toList, Quick.noObs, t0⟩ (room_new (by omega) (by omega)) (Nat.lt_succ_self _)
      have hR' := hR
      unfold allR at hR'
      rw [hR'] at hE
      exact all_err s w hs2 hv hS hR hE
end Go.Proofs.YtlibdhnlmekmhaaGreatDoor.Rd
end
