/- The contract of text. | The contract of text: the walk. -/
import Derived.Lib.OthersKept
import Derived.Test.YtlibdhnlmekmhaaGreatDoorMg26
/- The contract of text. -/
section
namespace Go.Proofs.YtlibdhnlmekmhaaGreatDoor.Rd
set_option maxRecDepth 100000
open Go.RowKit Go.Lib
open Go.Proofs.YtlibdhnlmekmhaaGreatDoor.Own Go.Proofs.YtlibdhnlmekmhaaGreatDoor.Hp Go.Proofs.YtlibdhnlmekmhaaGreatDoor.Rep Go.Proofs.YtlibdhnlmekmhaaGreatDoor.Get Go.Proofs.YtlibdhnlmekmhaaGreatDoor.Utf Go.Proofs.YtlibdhnlmekmhaaGreatDoor.Chars Go.Proofs.YtlibdhnlmekmhaaGreatDoor.Make

theorem hexF_isZ (st : Nat) : ∀ (l : List Int) (k : Nat) (n x : Int) (r : List Int), hexF st k n l = .ok x r → isZ x = true
  | [], k, n, x, r, h => by rw [hexF] at h; cases h
  | c :: l, k, n, x, r, h => by
    rw [hexF] at h
    split at h
    · exact hexF_isZ st l _ _ x r h
    · split at h
      · cases h
      · rename_i hb
        cases h
        simp only [not_or, Bool.not_eq_false] at hb
        exact hb.2.2
theorem escF_isC {l : List Int} {x : Int} {r : List Int} (hl : ∀ c ∈ l, isC c) (h : escF l = .ok (some x) r) : isC x := by
  cases l with
  | nil => rw [escF] at h; cases h
  | cons d l =>
    have hd := hl d (by simp)
    rw [escF] at h
    split at h
    · cases h; exact hd
    · split at h
      · cases h
      · split at h
        · split at h
          · rename_i n r' he
            cases h
            exact (isZ_iff _).1 (hexF_isZ _ _ _ _ _ _ he)
          · cases h
        · split at h
          · rename_i k hk
            cases h
            unfold ctlZ at hk
            split at hk
            · cases hk; exact ⟨by omega, by omega, by omega⟩
            · split at hk
              · cases hk; exact ⟨by omega, by omega, by omega⟩
              · split at hk
                · cases hk; exact ⟨by omega, by omega, by omega⟩
                · cases hk
          · cases h
theorem Bd.later {X : Fx} {w wr w' : World} {a op B b : Nat} {s : St} {F : Nat → Prop} {acc : List Int} (h : Bd X w wr a op B b s F acc) (hb : Below wr.heap.size wr w') : Bd X w w' a op B b s F acc where
  ps := h.ps.later hb
  aft := h.aft.then_below hb
  low := h.low
  wB := h.wB
  Bw := Nat.le_trans h.Bw hb.size
  bd := builder_keeps h.bd (Keeps.of_below (F := fun _ => False) hb) fun _ hf => hf.elim
/-- String, and what it keeps besides. -/
theorem Bd.stringK {X : Fx} {w wr : World} {a op B b : Nat} {s : St} {F : Nat → Prop} {acc : List Int} (h : Bd X w wr a op B b s F acc) :
    Calls Tryz.prog 175 #[.pointer (some ⟨b, 0, none⟩)] wr fun e w' => e = .returned (.string (strOf (enc acc))) ∧ PS X w' a op s F ∧ PAfter X w w' F F ∧ ∀ k cs, k ≠ b → Blk wr k cs 28 → Blk w' k cs 28 := by
  refine (Tryz.Builder_String_any_k B b (enc acc) wr h.bd h.Bw).mono ?_
  rintro e w' ⟨rfl, _, hb, ho⟩
  exact ⟨rfl, h.ps.above h.low hb, h.aft.above h.wB hb, fun k cs hk hB => ho k _ hB (fun e => hk (Option.some.inj e)) (fun _ _ e => by cases e)⟩

/-- Between two rounds of text. -/
def StrAt (X : Fx) (w2 wr : World) (op b : Nat) (s : St) (F : Nat → Prop) (R : Sc (List Int)) (u : Value) : Prop :=
  ∃ (c : Int) (acc r : List Int) (a' j : Nat), u = .int .i64 c ∧ Bd X w2 wr a' op b b ⟨r, s.ob, s.tb⟩ F acc ∧ strF j acc (c :: r) = R ∧ isC c ∧ (∀ x ∈ acc, isC x) ∧ r.length + 1 ≤ j ∧ acc.length + r.length ≤ X.l.length ∧ 1 ≤ a'
end Go.Proofs.YtlibdhnlmekmhaaGreatDoor.Rd
end

/- The contract of text: the walk. -/
section
namespace Go.Proofs.YtlibdhnlmekmhaaGreatDoor.Rd
set_option maxRecDepth 100000
open Go.RowKit Go.Lib
open Go.Proofs.YtlibdhnlmekmhaaGreatDoor.Own Go.Proofs.YtlibdhnlmekmhaaGreatDoor.Hp Go.Proofs.YtlibdhnlmekmhaaGreatDoor.Rep Go.Proofs.YtlibdhnlmekmhaaGreatDoor.Get Go.Proofs.YtlibdhnlmekmhaaGreatDoor.Utf Go.Proofs.YtlibdhnlmekmhaaGreatDoor.Chars Go.Proofs.YtlibdhnlmekmhaaGreatDoor.Make

/-- Behind the characters of a string: the world, its blocks. -/
structure TxtSt (X : Fx) (w W : World) (a op n : Nat) (s : St) (F F' : Nat → Prop) : Prop where
  ps : PS X W a op s F'
  aft : PAfter X w W F F'
  box : Blk W n #[.int .i64 0, .int .i64 0] 28
  mine : Mine X w F' n
theorem TxtSt.later {X : Fx} {w W W' : World} {a op n : Nat} {s : St} {F F' : Nat → Prop} (h : TxtSt X w W a op n s F F') (hb : Below W.heap.size W W') : TxtSt X w W' a op n s F F' := ⟨h.ps.later hb, h.aft.then_below hb, h.box.below hb, h.mine⟩
theorem TxtSt.put {X : Fx} {w W : World} {a op n B : Nat} {s : St} {F F' : Nat → Prop} (h : TxtSt X w W a op n s F F') (hm : Mine X w F' B) (hn : n ≠ B) (hw : w.heap.size ≤ B) (u v : Value) : TxtSt X w ((W.setCell ⟨B, 0, none⟩ u).setCell ⟨B, 1, none⟩ v) a op n s F F' := by
  have hk : Keeps (fun k => k = B) W ((W.setCell ⟨B, 0, none⟩ u).setCell ⟨B, 1, none⟩ v) := (keeps_set W B 0 u).trans (keeps_set _ B 1 v)
  have := h.ps.put2 hm h.aft hw u v
  exact ⟨this.1, this.2, h.box.keeps hk hn, h.mine⟩
/-- What becomes of the characters of a string. -/
def txtR (lim : Nat) (s : St) : Sc (List Int) → Res Wd
  | .bad m => .err 5 m s.ob s.tb
  | .ok acc r => if (textO s.ob lim (strOf (enc acc))).2.1 = 0 then .ok (textO s.ob lim (strOf (enc acc))).1 ⟨r, (textO s.ob lim (strOf (enc acc))).2.2, s.tb⟩
    else .err (textO s.ob lim (strOf (enc acc))).2.1 s.rest.length (textO s.ob lim (strOf (enc acc))).2.2 s.tb
theorem textG_eq (lim : Nat) (s : St) : textG lim s = txtR lim s (strF s.rest.length [] s.rest.tail) := by
  unfold textG txtR
  cases strF s.rest.length [] s.rest.tail <;> rfl

set_option maxHeartbeats 8000000 in
theorem PS.text {X : Fx} {w : World} {a op : Nat} {s : St} {F : Nat → Prop} (h : PS X w a op s F) (hX : X.Ok) {c0 : Int} {t : List Int} (hr : s.rest = c0 :: t) :
    Calls Tryz.prog 128 #[pptr X.p] w (Out X w op F retW (textG X.lim s)) := by
  obtain ⟨R, hR⟩ : ∃ R, textG X.lim s = R := ⟨_, rfl⟩
  rw [hR]
  have hpos := h.pos
  have hnn := h.n
  rw [hr] at hnn
  have h1 := h.alloc wbox0
  have hat := h1.at_
  rw [hr] at hat
  obtain ⟨hd, hle⟩ := drop_tail hat
  have hm := h1.move hX (a + 1) hle (.int .i64 ((a : Int) + 1)) (by simp)
  rw [hd] at hm
  have hM := h.mine (Nat.le_refl _)
  obtain ⟨n, hn⟩ : ∃ n, w.heap.size = n := ⟨_, rfl⟩
  obtain ⟨w2, hw2⟩ : ∃ w2, w2 = (w.alloc wbox0).setCell ⟨X.p, 3, none⟩ (.int .i64 ((a : Int) + 1)) := ⟨_, rfl⟩
  have hA2 : PAfter X w w2 F F := by rw [hw2]; exact (PAfter.of_below (bel_box w wbox0)).trans hm.2
  have hB2 : Blk w2 n #[.int .i64 0, .int .i64 0] 28 := by rw [hw2, ← hn]; exact (hm.2.blk (Blk.new w _ _) hM.f hM.p).1
  have hz2 : w2.heap.size = n + 1 := by rw [hw2, ← hn]; simp [World.setCell]
  have hP2 : PS X w2 (a + 1) op ⟨t, s.ob, s.tb⟩ F := by rw [hw2]; exact hm.1
  have hbd := hP2.build (PAfter.refl X _ F)
  rw [hz2] at hbd
  obtain ⟨_, _, _, c3, _, _⟩ := Blk.six h1.blk
  have f3 := h1.blk.free 3
  have hs := hX.short
  have hb0 : (a : Int) + 1 ≤ 1000000 := by omega
  rw [hn] at hM
  have HX := Lib.hid hX
  have HR := Lib.hid hR
  have HM := Lib.hid hM
  have HA2 := Lib.hid hA2
  have HB2 := Lib.hid hB2
  have HPos := Lib.hid hpos
  have HRest := Lib.hid hr
  have HNn := Lib.hid hnn
  have HN := Lib.hid hn
  have HZ2 := Lib.hid hz2
  obtain ⟨RS, hRS⟩ : ∃ RS, strF s.rest.length [] t = RS := ⟨_, rfl⟩
  have HRS := Lib.hid hRS
  have HRR : Hid (R = txtR X.lim s RS) := by
    show R = _
    rw [← hR, ← hRS, textG_eq, show s.rest.tail = t by rw [hr]; rfl]
  have hfu : t.length + 1 = s.rest.length := by rw [hr]; simp
  have HBd := Lib.hid hbd
  have HFu := Lib.hid hfu
  clear h h1 hR hpos hnn hat hd hle hm hM hA2 hB2 hz2 hP2 hbd hX hs hRS hfu hr
  cases t with
  | nil =>
    have hR2 : R = .err 5 0 s.ob s.tb := by
      rw [HRR.out, ← HRS.out, ← HFu.out]
      rfl
    subst hR2
    have HT := Lib.hid (HBd.out.ps.takeEnd HX.out rfl)
    go_enter Tryz.func128, Tryz.ntmps128
    go_wp2_with fail
    rw [← hw2]
    try rw [HZ2.out]
    refine HT.out.mono ?_
    rintro e w4 ⟨rfl, rfl⟩
    clear hw2 hn c3 f3
    unfold faultE
    go_wp2_with fail
    exact ⟨rfl, rfl, F, HBd.out.ps.ht, HA2.out.trans HBd.out.aft⟩
  | cons c t =>
    have HT := Lib.hid (HBd.out.ps.take HX.out rfl)
    have H0 := Lib.hid (fun w4 (hP : PS X w4 (a + 1 + 1) op ⟨t, s.ob, s.tb⟩ F) (hA : PAfter X (w2.alloc (.cells #[.pointer none, .slice none 0 0] 171)) w4 F F) => show StrAt X w2 w4 op (n + 1) s F RS (.int .i64 c) from
      ⟨c, [], t, a + 1 + 1, s.rest.length, rfl, HBd.out.act hP hA, HRS.out, HX.out.chars c (List.mem_of_mem_drop (by rw [HBd.out.ps.at_]; simp)), by simp, by have := HFu.out; simp at this; omega, by have := HNn.out; simp at this ⊢; omega, by omega⟩)
    go_enter Tryz.func128, Tryz.ntmps128
    go_wp2_with fail
    rw [← hw2]
    try rw [HZ2.out]
    refine HT.out.mono ?_
    rintro e w4 ⟨rfl, hP4, hA4⟩
    have H04 := Lib.hid (H0.out _ hP4 hA4)
    clear hP4 hA4 hw2 hn c3 f3
    go_wp2_with fail
    try rw [HZ2.out]
    go_loopw [5] (fun u wr => StrAt X w2 wr op (n + 1) s F RS u) (fun _ wr => X.l.length - atOf wr X.p)
    case atStart => exact H04.out
    case round =>
      obtain ⟨c, acc, r, a1, j, rfl, hB, hst, hc, hacc, hj, hlen, ha1⟩ := hrel
      have hs := HX.out.short
      have hal : acc.length ≤ 1000000 := by omega
      have HP1 := Lib.hid hB.ps.atIs
      obtain ⟨j, rfl⟩ : ∃ i, j = i + 1 := ⟨j - 1, by omega⟩
      rw [strF] at hst
      by_cases e34 : c = 34
      · rw [if_pos e34] at hst
        subst e34
        subst hst
        have HR2 := Lib.hid HRR.out
        have hlen4 := enc_len4 acc
        obtain ⟨S, hS⟩ : ∃ S, strOf (enc acc) = S := ⟨_, rfl⟩
        have hsz : S.size ≤ 4611686018427387904 := by rw [← hS, strOf_size]; omega
        have hRR : R = if (textO s.ob X.lim S).2.1 = 0 then .ok (textO s.ob X.lim S).1 ⟨r, (textO s.ob X.lim S).2.2, s.tb⟩ else .err (textO s.ob X.lim S).2.1 s.rest.length (textO s.ob X.lim S).2.2 s.tb := by
          rw [HR2.out, ← hS]
          rfl
        obtain ⟨z, hz⟩ : ∃ z, (textO s.ob X.lim S).1 = z := ⟨_, rfl⟩
        obtain ⟨c, hc⟩ : ∃ c, (textO s.ob X.lim S).2.1 = c := ⟨_, rfl⟩
        obtain ⟨ob, hob⟩ : ∃ o, (textO s.ob X.lim S).2.2 = o := ⟨_, rfl⟩
        rw [hz, hc, hob] at hRR
        have HRF := Lib.hid hRR
        have hbox : ∀ W, PS X W a1 op ⟨r, s.ob, s.tb⟩ F ∧ PAfter X w2 W F F → TxtSt X w W a1 op n ⟨r, s.ob, s.tb⟩ F F := fun W hh => ⟨hh.1, HA2.out.trans hh.2, (hh.2.blk HB2.out HM.out.f HM.out.p).1, HM.out⟩
        have hstr : ∀ W, Below wr.heap.size wr W → Calls Tryz.prog 175 #[.pointer (some ⟨n + 1, 0, none⟩)] W fun e w' => e = .returned (.string S) ∧ TxtSt X w w' a1 op n ⟨r, s.ob, s.tb⟩ F F ∧ ∀ k cs, k ≠ n + 1 → Blk W k cs 28 → Blk w' k cs 28 := fun W hW => by
          refine ((hB.later hW).stringK).mono ?_
          rintro e w' ⟨he, hP, hA, hK⟩
          rw [hS] at he
          exact ⟨he, hbox w' ⟨hP, hA⟩, hK⟩
        have htxt : ∀ W, TxtSt X w W a1 op n ⟨r, s.ob, s.tb⟩ F F → Calls Tryz.prog 174 #[ptr X.hp, .string S] W fun e w' => e = .returned (.tuple #[wd z, .int .i64 c]) ∧ ∃ F', TxtSt X w w' a1 op n ⟨r, ob, s.tb⟩ F F' ∧ PAfter X W w' F F' := fun W hW => by
          have := hW.ps.ht.text S hsz (hW.ps.sys HX.out).tabs
          rw [hz, hc, hob] at this
          refine this.mono fun e w' ⟨he, hok⟩ => ⟨he, ?_⟩
          obtain ⟨F', hP, hA⟩ := hW.ps.ofHT HX.out hok
          have hb := hA.blk hW.box hW.mine.f hW.mine.p
          exact ⟨F', ⟨hP, hW.aft.trans hA, hb.1, hW.mine.later hA hW.box.lt⟩, hA⟩
        have hsP : ∀ W, Below wr.heap.size wr W → W.cell? ⟨X.p, 0, none⟩ = some (.pointer (some ⟨X.hp, 0, none⟩)) := fun W hW => (hB.ps.later hW).blk.cell 0 _ rfl
        have hwn : n + 1 < wr.heap.size := by
          rcases hB.bd with ⟨_, v, hb, _⟩ | ⟨_, v, hb, _⟩
          · exact (Array.getElem?_eq_some_iff.1 hb).1
          · exact (Array.getElem?_eq_some_iff.1 hb).1
        have hfr : ∀ k, wr.heap.size ≤ k → Mine X w F k := fun k hk => ⟨hB.ps.ht.fresh hk, by have := hB.ps.blk.lt; omega, by have := hB.ps.row.lt; omega, by have := hB.ps.map.lt; omega, Nat.le_trans hB.ps.below.size hk⟩
        have HStr := Lib.hid hstr
        have HTxt := Lib.hid htxt
        have HSP := Lib.hid hsP
        have HWn := Lib.hid hwn
        have HFr := Lib.hid hfr
        have HBx := Lib.hid (bel_drew (w := wr))
        have HBy := Lib.hid ((bel_box wr wbox0).drew)
        have s0 : wr.cell? ⟨X.p, 0, none⟩ = some (.pointer (some ⟨X.hp, 0, none⟩)) := hB.ps.blk.cell 0 _ rfl
        clear hB hacc hj hlen ha1 hs hal hRR hS hsz hz hc hob hbox hstr htxt hsP hwn hfr hlen4
        go_wp2_with fail
        go_region_held3 (fun w' => w'.cell? ⟨X.p, 0, none⟩ = some (.pointer (some ⟨X.hp, 0, none⟩)))
          (first | exact HQ7.out.ps.blk.cell 0 _ rfl | exact (HQ7.out.put HM7.out HNe.out HLe.out _ _).ps.blk.cell 0 _ rfl | exact (HQ7.out.later (bel_box _ _)).ps.blk.cell 0 _ rfl | exact HQ5.out.ps.blk.cell 0 _ rfl | exact (HQ5.out.later (bel_box _ _)).ps.blk.cell 0 _ rfl | exact HSP.out _ HBx.out | exact HSP.out _ HBy.out)
          (first
            | (go_at_call 175; refine (HStr.out _ HBx.out).mono ?_; rintro e w5 ⟨rfl, hq, _⟩; have HQ5 := Lib.hid hq; clear hq)
            | (go_at_call 175; refine (HStr.out _ HBy.out).mono ?_; rintro e w5 ⟨rfl, hq, hk⟩; have HK5 := Lib.hid (hk wr.heap.size _ (by have := HWn.out; omega) (Blk.new wr _ _)); have HQ5 := Lib.hid hq; clear hq hk)
            | (go_at_call 174; refine (HTxt.out _ HQ5.out).mono ?_; rintro e w7 ⟨rfl, F', hq, ha7⟩; first
                | (have hb7 := ha7.blk HK5.out (HFr.out _ (Nat.le_refl _)).f (HFr.out _ (Nat.le_refl _)).p; have HM7 := Lib.hid ((HFr.out _ (Nat.le_refl _)).later ha7 HK5.out.lt); have HNe := Lib.hid (show n ≠ wr.heap.size from by have := HWn.out; omega); have HLe := Lib.hid (show w.heap.size ≤ wr.heap.size from by have := HWn.out; have := HN.out; omega); obtain ⟨t0, t1, t2, t3⟩ := hb7.1.two; have HB7 := Lib.hid hb7.1; have HQ7 := Lib.hid hq; clear hq ha7 hb7)
                | (have HQ7 := Lib.hid hq; clear hq ha7))
            | (go_at_call 174; refine (HTxt.out _ (HQ5.out.later (bel_box _ wbox0))).mono ?_; rintro e w7 ⟨rfl, F', hq, ha7⟩; have hm5 := HQ5.out.ps.mine (Nat.le_refl _); have hm6 : Mine X w F w5.heap.size := ⟨hm5.f, hm5.p, hm5.g, hm5.m, hm5.low⟩; have hb7 := ha7.blk (Blk.new w5 _ _) hm5.f hm5.p; have HM7 := Lib.hid (hm6.later ha7 (by simp)); have HNe := Lib.hid (show n ≠ w5.heap.size from Nat.ne_of_lt HQ5.out.box.lt); have HLe := Lib.hid (show w.heap.size ≤ w5.heap.size from HQ5.out.aft.keeps.size); obtain ⟨t0, t1, t2, t3⟩ := hb7.1.two; have HB7 := Lib.hid hb7.1; have HQ7 := Lib.hid hq; clear hq ha7 hb7 hm5 hm6))
        all_goals (
          first
            | (have hq8 := HQ7.out.put HM7.out HNe.out HLe.out (.int .i64 z.1) (.int .i64 z.2)
               first
                 | (have hb8 : Blk ((w7.setCell ⟨wr.heap.size, 0, none⟩ (.int .i64 z.1)).setCell ⟨wr.heap.size, 1, none⟩ (.int .i64 z.2)) wr.heap.size #[.int .i64 z.1, .int .i64 z.2] 28 := by simpa using (HB7.out.set 0 (.int .i64 z.1)).set 1 (.int .i64 z.2)
                    obtain ⟨W8, hW8⟩ : ∃ W, (w7.setCell ⟨wr.heap.size, 0, none⟩ (.int .i64 z.1)).setCell ⟨wr.heap.size, 1, none⟩ (.int .i64 z.2) = W := ⟨_, rfl⟩
                    rw [hW8] at hq8 hb8 ⊢
                    obtain ⟨b8, hb8e⟩ : ∃ b, wr.heap.size = b := ⟨_, rfl⟩
                    rw [hb8e] at hb8 ⊢)
                 | (have hb8 : Blk ((w7.setCell ⟨w5.heap.size, 0, none⟩ (.int .i64 z.1)).setCell ⟨w5.heap.size, 1, none⟩ (.int .i64 z.2)) w5.heap.size #[.int .i64 z.1, .int .i64 z.2] 28 := by simpa using (HB7.out.set 0 (.int .i64 z.1)).set 1 (.int .i64 z.2)
                    obtain ⟨W8, hW8⟩ : ∃ W, (w7.setCell ⟨w5.heap.size, 0, none⟩ (.int .i64 z.1)).setCell ⟨w5.heap.size, 1, none⟩ (.int .i64 z.2) = W := ⟨_, rfl⟩
                    rw [hW8] at hq8 hb8 ⊢
                    obtain ⟨b8, hb8e⟩ : ∃ b, w5.heap.size = b := ⟨_, rfl⟩
                    rw [hb8e] at hb8 ⊢)
               clear t0 t1 t2 t3)
            | (have hq8 := HQ7.out.later (bel_box _ (.cells #[.int .i64 z.1, .int .i64 z.2] 28))
               have hb8 := Blk.new w7 #[.int .i64 z.1, .int .i64 z.2] 28
               obtain ⟨W8, hW8⟩ : ∃ W, w7.alloc (.cells #[.int .i64 z.1, .int .i64 z.2] 28) = W := ⟨_, rfl⟩
               rw [hW8] at hq8 hb8 ⊢
               obtain ⟨b8, hb8e⟩ : ∃ b, w7.heap.size = b := ⟨_, rfl⟩
               rw [hb8e] at hb8 ⊢)
          clear hW8 hb8e s0
          obtain ⟨d0, d1, _, _⟩ := hb8.two
          obtain ⟨g0, g1, g2, g3⟩ := hq8.box.two
          have HQ8 := Lib.hid hq8
          clear hq8 hb8
          by_cases h0 : c = 0
          · subst h0
            have HRG : Hid (R = .ok z ⟨r, ob, s.tb⟩) := HRF.out.trans (if_pos rfl)
            go_wp2_with (first
              | (go_at_call 120; refine (check_ok _ _).mono ?_; rintro e w9 ⟨rfl, rfl⟩))
            have hf := HQ8.out.ps.put2 HQ8.out.mine HQ8.out.aft (Nat.le_of_eq HN.out) (.int .i64 z.1) (.int .i64 z.2)
            rw [HRG.out]
            refine bodyPost_ret (v := wd z) (by simp [results, Tryz.results128, go_sem, g0, g1, g2, g3]) rfl ⟨a1, F', rfl, hf.1, hf.2⟩
          · have HRG : Hid (R = .err c s.rest.length ob s.tb) := HRF.out.trans (if_neg h0)
            have H0n := Lib.hid h0
            clear h0
            go_wp2_with (first
              | (go_at_call 120; refine (check_err c H0n.out a _).mono ?_; rintro e w9 ⟨rfl, rfl⟩; unfold faultE))
            refine ⟨rfl, ?_⟩
            rw [HRG.out]
            exact ⟨by rw [HPos.out]; rfl, F', HQ8.out.ps.ht, HQ8.out.aft⟩)
      · rw [if_neg e34] at hst
        have n34 : (c != 34) = true := by simpa using e34
        by_cases e92 : c = 92
        · rw [if_pos e92] at hst
          subst e92
          have hesc := hB.ps.textEscape HX.out ha1
          simp only at hesc
          cases hq : escF r with
          | bad m =>
            rw [hq] at hst hesc
            simp only at hst
            subst hst
            have HE := Lib.hid hesc
            have HB := Lib.hid hB
            have HR2 := Lib.hid HRR.out
            clear hB hesc hq hacc hj hlen ha1 hs hal e34 HRR HRS
            go_wp2_with fail
            refine HE.out.mono ?_
            rintro e w5 ⟨rfl, hH, hA⟩
            have HH := Lib.hid (And.intro hH hA)
            clear hH hA
            unfold faultE
            go_wp2_with fail
            refine ⟨rfl, ?_⟩
            rw [HR2.out]
            exact ⟨rfl, F, HH.out.1, (HA2.out.trans HB.out.aft).trans HH.out.2⟩
          | ok o r2 =>
            rw [hq] at hst hesc
            simp only at hst
            have hlt := (escF_suf hq).length_le
            have hr2 : r2.length + 1 ≤ j := by
              have h1 : r2.length < r.length := by
                cases r with
                | nil => rw [escF] at hq; cases hq
                | cons d r =>
                  have h2 := hq
                  rw [escF] at h2
                  have h3 : r2 <:+ r := by
                    split at h2
                    · cases h2; exact List.suffix_refl _
                    · split at h2
                      · cases h2; exact List.suffix_refl _
                      · split at h2
                        · split at h2
                          · rename_i he
                            cases h2
                            exact hexF_suf _ _ _ _ _ _ he
                          · cases h2
                        · split at h2
                          · cases h2; exact List.suffix_refl _
                          · cases h2
                  have := h3.length_le
                  simp
                  omega
              omega
            have hrC : ∀ x ∈ r, isC x := fun x hx => HX.out.chars x (List.mem_of_mem_drop (by rw [hB.ps.at_]; exact hx))
            have hoC : ∀ x, o = some x → isC x := fun x e => escF_isC hrC (by rw [hq, e])
            have HE := Lib.hid hesc
            have HB := Lib.hid hB
            have HLen := Lib.hid (And.intro hr2 (And.intro hlt (And.intro hlen hacc)))
            have HSt := Lib.hid hst
            cases o with
            | none =>
              cases r2 with
              | nil =>
                have hR2 : RS = .bad 0 := by
                  rw [← hst]
                  obtain ⟨i, rfl⟩ : ∃ i, j = i + 1 := ⟨j - 1, by simp at hr2; omega⟩
                  rfl
                subst hR2
                have HTE := Lib.hid (fun W a2 (hPW : PS X W a2 op ⟨[], s.ob, s.tb⟩ F) => hPW.takeEnd HX.out rfl)
                clear hB hesc hq hacc hj hlen ha1 hs hal e34 hst hlt hr2 hrC hoC
                go_wp2_with fail
                refine HE.out.mono ?_
                rintro e w5 ⟨rfl, a2, hP, hA⟩
                have HP := Lib.hid (And.intro hP hA)
                clear hP hA
                unfold retO
                go_wp2_with fail
                refine (HTE.out _ _ HP.out.1).mono ?_
                rintro e w6 ⟨rfl, rfl⟩
                unfold faultE
                go_wp2_with fail
                refine ⟨rfl, ?_⟩
                rw [HRR.out]
                exact ⟨rfl, F, HP.out.1.ht, (HA2.out.trans HB.out.aft).trans HP.out.2⟩
              | cons c2 r3 =>
                have hc2 : isC c2 := hrC c2 (by
                  have := escF_suf hq
                  exact this.subset (by simp))
                have HTk := Lib.hid (fun W a2 (hPW : PS X W a2 op ⟨c2 :: r3, s.ob, s.tb⟩ F) => hPW.take HX.out rfl)
                have HF := Lib.hid (fun W a2 (hPW : Bd X w2 W (a2 + 1) op (n + 1) (n + 1) ⟨r3, s.ob, s.tb⟩ F acc) => show StrAt X w2 W op (n + 1) s F RS (.int .i64 c2) from
                  ⟨c2, acc, r3, a2 + 1, j, rfl, hPW, by rw [← HSt.out]; simp, hc2, hacc, by have := HLen.out.1; simp at this; omega, by have := HLen.out.2; simp at this; omega, by omega⟩)
                clear hB hesc hq hacc hj hlen ha1 hs hal e34 hst hlt hr2 hrC hoC hc2
                go_wp2_with fail
                refine HE.out.mono ?_
                rintro e w5 ⟨rfl, a2, hP, hA⟩
                have HP := Lib.hid (And.intro hP hA)
                clear hP hA
                unfold retO
                go_wp2_with fail
                refine (HTk.out _ _ HP.out.1).mono ?_
                rintro e w6 ⟨rfl, hP6, hA6⟩
                have HP6 := Lib.hid (HB.out.act hP6 (HP.out.2.trans hA6))
                clear hP6 hA6
                go_wp2_with fail
                go_roundw
                case rel => exact HF.out _ _ HP6.out
                case measure =>
                  have h1 := HP1.out
                  have h2 := HP6.out.ps.atIs
                  have h3 := HP6.out.ps.n
                  have h4 := HB.out.ps.n
                  have h5 := HLen.out.2.1
                  rw [h1, h2]
                  simp at h3 h4 h5
                  omega
            | some x =>
              have hxC := hoC x rfl
              obtain ⟨x0, x1, x2⟩ := hxC
              have nm1 : (x != -1) = true := by simp; omega
              have HWr := Lib.hid (fun W a2 (hPW : Bd X w2 W a2 op (n + 1) (n + 1) ⟨r2, s.ob, s.tb⟩ F acc) => hPW.write x ⟨x0, x1, x2⟩ hal)
              have HaC : Hid (∀ y ∈ acc ++ [x], isC y) := fun y hy => by
                rcases List.mem_append.1 hy with hy | hy
                · exact hacc y hy
                · simp at hy; subst hy; exact ⟨x0, x1, x2⟩
              cases r2 with
              | nil =>
                have hR2 : RS = .bad 0 := by
                  rw [← hst]
                  obtain ⟨i, rfl⟩ : ∃ i, j = i + 1 := ⟨j - 1, by simp at hr2; omega⟩
                  rfl
                subst hR2
                have HTE := Lib.hid (fun W a2 (hPW : PS X W a2 op ⟨[], s.ob, s.tb⟩ F) => hPW.takeEnd HX.out rfl)
                clear hB hesc hq hacc hj hlen ha1 hs hal e34 hst hlt hr2 hrC hoC x2
                go_wp2_with fail
                refine HE.out.mono ?_
                rintro e w5 ⟨rfl, a2, hP, hA⟩
                have HP := Lib.hid (HB.out.act hP hA)
                clear hP hA
                unfold retO
                go_wp2_with fail
                refine (HWr.out _ _ HP.out).mono ?_
                rintro e w6 ⟨⟨v, rfl⟩, hB6⟩
                have HB6 := Lib.hid hB6
                clear hB6
                go_wp2_with fail
                refine (HTE.out _ _ HB6.out.ps).mono ?_
                rintro e w7 ⟨rfl, rfl⟩
                unfold faultE
                go_wp2_with fail
                refine ⟨rfl, ?_⟩
                rw [HRR.out]
                exact ⟨rfl, F, HB6.out.ps.ht, HA2.out.trans HB6.out.aft⟩
              | cons c2 r3 =>
                have hc2 : isC c2 := hrC c2 (by
                  have := escF_suf hq
                  exact this.subset (by simp))
                have HTk := Lib.hid (fun W a2 (hPW : PS X W a2 op ⟨c2 :: r3, s.ob, s.tb⟩ F) => hPW.take HX.out rfl)
                have HF := Lib.hid (fun W a2 (hPW : Bd X w2 W (a2 + 1) op (n + 1) (n + 1) ⟨r3, s.ob, s.tb⟩ F (acc ++ [x])) => show StrAt X w2 W op (n + 1) s F RS (.int .i64 c2) from
                  ⟨c2, acc ++ [x], r3, a2 + 1, j, rfl, hPW, by rw [← HSt.out]; simp, hc2, HaC.out, by have := HLen.out.1; simp at this; omega, by have h1 := HLen.out.1; have h2 := HLen.out.2; simp at h1 h2 ⊢; omega, by omega⟩)
                clear hB hesc hq hacc hj hlen ha1 hs hal e34 hst hlt hr2 hrC hoC hc2 x2
                go_wp2_with fail
                refine HE.out.mono ?_
                rintro e w5 ⟨rfl, a2, hP, hA⟩
                have HP := Lib.hid (HB.out.act hP hA)
                clear hP hA
                unfold retO
                go_wp2_with fail
                refine (HWr.out _ _ HP.out).mono ?_
                rintro e w6 ⟨⟨v, rfl⟩, hB6⟩
                have HB6 := Lib.hid hB6
                clear hB6
                go_wp2_with fail
                refine (HTk.out _ _ HB6.out.ps).mono ?_
                rintro e w7 ⟨rfl, hP7, hA7⟩
                have HP7 := Lib.hid (HB6.out.act hP7 hA7)
                clear hP7 hA7
                go_wp2_with fail
                go_roundw
                case rel => exact HF.out _ _ HP7.out
                case measure =>
                  have h1 := HP1.out
                  have h2 := HP7.out.ps.atIs
                  have h3 := HP7.out.ps.n
                  have h4 := HB.out.ps.n
                  have h5 := HLen.out.2.1
                  rw [h1, h2]
                  simp at h3 h4 h5
                  omega
        · rw [if_neg e92] at hst
          have n92 : (c == 92) = false := by simpa using e92
          obtain ⟨q0, q1, _⟩ := hc
          have nm1 : (c != -1) = true := by simp; omega
          have hcC : isC c := ⟨q0, q1, by assumption⟩
          have HWr := Lib.hid (hB.write c hcC hal)
          have HaC : Hid (∀ y ∈ acc ++ [c], isC y) := fun y hy => by
            rcases List.mem_append.1 hy with hy | hy
            · exact hacc y hy
            · simp at hy; subst hy; exact hcC
          have HSt := Lib.hid hst
          have HB := Lib.hid hB
          cases r with
          | nil =>
            have hR2 : RS = .bad 0 := by
              rw [← hst]
              cases j <;> rfl
            subst hR2
            have HTE := Lib.hid (fun W a2 (hPW : PS X W a2 op ⟨[], s.ob, s.tb⟩ F) => hPW.takeEnd HX.out rfl)
            clear hB hacc hj hlen ha1 hs hal e34 hst e92 hcC
            go_wp2_with fail
            refine HWr.out.mono ?_
            rintro e w6 ⟨⟨v, rfl⟩, hB6⟩
            have HB6 := Lib.hid hB6
            clear hB6
            go_wp2_with fail
            refine (HTE.out _ _ HB6.out.ps).mono ?_
            rintro e w7 ⟨rfl, rfl⟩
            unfold faultE
            go_wp2_with fail
            refine ⟨rfl, ?_⟩
            rw [HRR.out]
            exact ⟨rfl, F, HB6.out.ps.ht, HA2.out.trans HB6.out.aft⟩
          | cons c2 r3 =>
            have hc2 : isC c2 := HX.out.chars c2 (List.mem_of_mem_drop (by rw [hB.ps.at_]; simp))
            have HTk := Lib.hid (fun W a2 (hPW : PS X W a2 op ⟨c2 :: r3, s.ob, s.tb⟩ F) => hPW.take HX.out rfl)
            have HLen := Lib.hid (And.intro hj (And.intro hlen hal))
            have HF := Lib.hid (fun W a2 (hPW : Bd X w2 W (a2 + 1) op (n + 1) (n + 1) ⟨r3, s.ob, s.tb⟩ F (acc ++ [c])) => show StrAt X w2 W op (n + 1) s F RS (.int .i64 c2) from
              ⟨c2, acc ++ [c], r3, a2 + 1, j, rfl, hPW, HSt.out, hc2, HaC.out, by have := HLen.out.1; simp at this; omega, by have h2 := HLen.out.2; simp at h2 ⊢; omega, by omega⟩)
            clear hB hacc hj hlen ha1 hs hal e34 hst e92 hcC hc2
            go_wp2_with fail
            refine HWr.out.mono ?_
            rintro e w6 ⟨⟨v, rfl⟩, hB6⟩
            have HB6 := Lib.hid hB6
            clear hB6
            go_wp2_with fail
            refine (HTk.out _ _ HB6.out.ps).mono ?_
            rintro e w7 ⟨rfl, hP7, hA7⟩
            have HP7 := Lib.hid (HB6.out.act hP7 hA7)
            clear hP7 hA7
            go_wp2_with fail
            go_roundw
            case rel => exact HF.out _ _ HP7.out
            case measure =>
              have h1 := HP1.out
              have h2 := HP7.out.ps.atIs
              have h3 := HP7.out.ps.n
              have h4 := HB.out.ps.n
              rw [h1, h2]
              simp at h3 h4
              omega
end Go.Proofs.YtlibdhnlmekmhaaGreatDoor.Rd
end
