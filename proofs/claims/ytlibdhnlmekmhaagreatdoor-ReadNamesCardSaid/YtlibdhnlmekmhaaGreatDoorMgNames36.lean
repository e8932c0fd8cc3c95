/- The contract of character. | Every form is read as the plain reader reads it. -/
import Derived.Test.YtlibdhnlmekmhaaGreatDoorMgNames30
import Derived.Test.YtlibdhnlmekmhaaGreatDoorMgNames31
import Derived.Test.YtlibdhnlmekmhaaGreatDoorMgNames34
import Derived.Test.YtlibdhnlmekmhaaGreatDoorMgNames35
/- The contract of character. -/
section
namespace Go.Proofs.YtlibdhnlmekmhaaGreatDoor.Rd
set_option maxRecDepth 100000
open Go.RowKit Go.Lib
open Go.Proofs.YtlibdhnlmekmhaaGreatDoor.Own Go.Proofs.YtlibdhnlmekmhaaGreatDoor.Hp Go.Proofs.YtlibdhnlmekmhaaGreatDoor.Rep Go.Proofs.YtlibdhnlmekmhaaGreatDoor.Get Go.Proofs.YtlibdhnlmekmhaaGreatDoor.Utf Go.Proofs.YtlibdhnlmekmhaaGreatDoor.Chars

/-- Between two rounds of character. -/
def ChrAt (X : Fx) (w1 wr : World) (op bm : Nat) (s : St) (F : Nat → Prop) (R : Sc (Int × Int)) (u : Value) : Prop :=
  ∃ (c m : Int) (r : List Int) (a' : Nat), u = .int .i64 c ∧ ChSt X w1 wr a' op ⟨r, s.ob, s.tb⟩ F bm m ∧ m ∈ modL ∧ 1 ≤ a' ∧ ((c = -1 ∧ ∃ j, chrF j m r = R ∧ r.length ≤ j) ∨ (isC c ∧ R = .ok (c, m) r))
def chrR (s : St) : Sc (Int × Int) → Res Wd
  | .bad m => .err 5 m s.ob s.tb
  | .ok (c, m) r => if endsB r then .ok (0, modifyZ c m) ⟨r, s.ob, s.tb⟩ else .err 5 r.length s.ob s.tb
theorem charG_eq (s : St) : charG s = chrR s (chrF s.rest.length 0 s.rest.tail) := by
  unfold charG chrR
  cases chrF s.rest.length 0 s.rest.tail <;> rfl
theorem cescF_C {l : List Int} {x : Int} {r : List Int} (hl : ∀ c ∈ l, isC c) (h : cescF l = .ok (.inl x) r) : isC x := by
  cases l with
  | nil => rw [cescF] at h; cases h
  | cons d l =>
    have hd := hl d (by simp)
    rw [cescF] at h
    split at h
    · cases l with
      | nil => rw [minusF] at h; cases h
      | cons e l =>
        rw [minusF] at h
        split at h <;> cases h
    · split at h
      · cases h; exact ⟨by omega, by omega, by omega⟩
      · split at h
        · cases h; exact ⟨by omega, by omega, by omega⟩
        · split at h
          · split at h
            · rename_i k hk
              cases h
              unfold ctlZ at hk
              split at hk
              · cases hk; exact ⟨by omega, by omega, by omega⟩
              · split at hk
                · cases hk; exact ⟨by omega, by omega, by omega⟩
                · split at hk
                  · cases hk; exact ⟨by omega, by omega, by omega⟩
                  · cases hk
            · cases h
          · cases h; exact hd
theorem cescF_m {l : List Int} {b : Int} {r : List Int} (h : cescF l = .ok (.inr b) r) : b ∈ [(33554432 : Int), 67108864, 134217728] := by
  cases l with
  | nil => rw [cescF] at h; cases h
  | cons d l =>
    rw [cescF] at h
    split at h
    · rename_i hm
      cases l with
      | nil => rw [minusF] at h; cases h
      | cons e l =>
        rw [minusF] at h
        split at h
        · cases h; exact modZ_in d hm
        · cases h
    · split at h
      · cases h
      · split at h
        · cases h
        · split at h
          · split at h <;> cases h
          · cases h
theorem cescF_less {l : List Int} {o : Int ⊕ Int} {r : List Int} (h : cescF l = .ok o r) : r.length < l.length := by
  have h1 : r <:+ l.tail := by
    cases l with
    | nil => rw [cescF] at h; cases h
    | cons d l =>
      rw [cescF] at h
      show r <:+ l
      split at h
      · exact (minusF_suf h).1
      · split at h
        · cases h; exact List.suffix_refl _
        · split at h
          · cases h; exact List.suffix_refl _
          · split at h
            · split at h
              · cases h; exact List.suffix_refl _
              · cases h
            · cases h; exact List.suffix_refl _
  have := h1.length_le
  cases l with
  | nil => rw [cescF] at h; cases h
  | cons d l => simp at this ⊢; omega

set_option maxHeartbeats 4000000 in
theorem PS.character {X : Fx} {w : World} {a op : Nat} {s : St} {F : Nat → Prop} (h : PS X w a op s F) (hX : X.Ok) {c0 : Int} {t : List Int} (hr : s.rest = c0 :: t) :
    Calls Tryz.prog 129 #[pptr X.p] w (Out X w op F retW (charG s)) := by
  obtain ⟨R, hR⟩ : ∃ R, charG s = R := ⟨_, rfl⟩
  rw [hR]
  have h1 := h.alloc wbox0
  have hat := h1.at_
  rw [hr] at hat
  obtain ⟨hd, hle⟩ := drop_tail hat
  have hm := h1.move hX (a + 1) hle (.int .i64 ((a : Int) + 1)) (by simp)
  rw [hd] at hm
  have hM := h.mine (Nat.le_refl _)
  obtain ⟨n, hn⟩ : ∃ n, w.heap.size = n := ⟨_, rfl⟩
  obtain ⟨w2, hw2⟩ : ∃ w2, w2 = (w.alloc wbox0).setCell ⟨X.p, 3, none⟩ (.int .i64 ((a : Int) + 1)) := ⟨_, rfl⟩
  have hA2 : PAfter X w w2 F F := by rw [hw2]; exact (PAfter.of_below (bel_box w wbox0)).trans hm.2
  have hB2 : Blk w2 n #[.int .i64 0, .int .i64 0] 28 := by rw [hw2, ← hn]; exact (hm.2.blk (Blk.new w _ _) hM.f hM.p).1
  have hz2 : w2.heap.size = n + 1 := by rw [hw2, ← hn]; simp [World.setCell]
  have hP2 : PS X w2 (a + 1) op ⟨t, s.ob, s.tb⟩ F := by rw [hw2]; exact hm.1
  have hch : ChSt X w2 (w2.alloc (.cells #[.int .i64 0] 3)) (a + 1) op ⟨t, s.ob, s.tb⟩ F (n + 1) 0 :=
    ⟨hP2.alloc _, .of_below (bel_box _ _), by rw [← hz2]; exact Blk.new w2 _ _, by
      have := hP2.mine (b := n + 1) (by omega)
      exact ⟨this.f, this.p, this.g, this.m, this.low⟩, by omega⟩
  obtain ⟨_, _, _, c3, _, _⟩ := Blk.six h1.blk
  have f3 := h1.blk.free 3
  have hs := hX.short
  have hb0 : (a : Int) + 1 ≤ 1000000 := by omega
  rw [hn] at hM
  obtain ⟨RS, hRS⟩ : ∃ RS, chrF s.rest.length 0 t = RS := ⟨_, rfl⟩
  have HRR : Hid (R = chrR s RS) := by
    show R = _
    rw [← hR, ← hRS, charG_eq, show s.rest.tail = t by rw [hr]; rfl]
  have HX := Lib.hid hX
  have HM := Lib.hid hM
  have HA2 := Lib.hid hA2
  have HB2 := Lib.hid hB2
  have HN := Lib.hid hn
  have HZ2 := Lib.hid hz2
  have HC0 : Hid (ChrAt X w2 (w2.alloc (.cells #[.int .i64 0] 3)) op (n + 1) s F RS (.int .i64 (-1))) :=
    ⟨-1, 0, t, a + 1, rfl, hch, by simp [modL], by omega, .inl ⟨rfl, s.rest.length, hRS, by rw [hr]; simp⟩⟩
  have b0' := hch.box
  clear h h1 hR hat hd hle hm hM hA2 hB2 hz2 hP2 hch hX hs hRS hr b0'
  go_enter Tryz.func129, Tryz.ntmps129
  go_wp2_with fail
  rw [← hw2]
  try rw [HZ2.out]
  clear hw2 hn c3 f3
  go_loopw [4] (fun u wr => ChrAt X w2 wr op (n + 1) s F RS u) (fun _ wr => X.l.length - atOf wr X.p)
  case atStart => exact HC0.out
  case round =>
    obtain ⟨c, m, r, a1, rfl, hC, hmL, ha1, hcase⟩ := hrel
    have hs := HX.out.short
    have HP1 := Lib.hid hC.ps.atIs
    rcases hcase with ⟨rfl, j, hj, hjl⟩ | ⟨hcC, hRS⟩
    · cases r with
      | nil =>
        have hR2 : RS = .bad 0 := by rw [← hj]; cases j <;> rfl
        subst hR2
        have HT := Lib.hid (hC.ps.takeEnd HX.out rfl)
        have HC := Lib.hid hC
        clear hC hmL ha1 hj hjl hs
        go_wp2_with fail
        refine HT.out.mono ?_
        rintro e w6 ⟨rfl, rfl⟩
        unfold faultE
        go_wp2_with fail
        refine ⟨rfl, ?_⟩
        rw [HRR.out]
        exact ⟨rfl, F, HC.out.ps.ht, HA2.out.trans HC.out.aft⟩
      | cons d r =>
        have hdC : isC d := HX.out.chars d (List.mem_of_mem_drop (by rw [hC.ps.at_]; simp))
        have hrC : ∀ x ∈ r, isC x := fun x hx => HX.out.chars x (List.mem_of_mem_drop (by rw [hC.ps.at_]; exact List.mem_cons_of_mem _ hx))
        have HT := Lib.hid (hC.ps.take HX.out rfl)
        obtain ⟨i, rfl⟩ : ∃ i, j = i + 1 := ⟨j - 1, by simp at hjl; omega⟩
        rw [chrF] at hj
        have HLe : Hid (a1 + 1 ≤ X.l.length) := by
          have := hC.ps.n
          show _ ≤ _
          simp at this
          omega
        have HC := Lib.hid hC
        by_cases e92 : d = 92
        · rw [if_pos e92] at hj
          subst e92
          have hesc := fun W (hW : ChSt X w2 W (a1 + 1) op ⟨r, s.ob, s.tb⟩ F (n + 1) m) => hW.escape HX.out (by omega)
          simp only at hesc
          cases hq : cescF r with
          | bad k =>
            rw [hq] at hj hesc
            simp only at hj
            subst hj
            have HE := Lib.hid hesc
            clear hC hmL ha1 hjl hs hdC hrC hesc hq
            go_wp2_with fail
            refine HT.out.mono ?_
            rintro e w5 ⟨rfl, hP, hA⟩
            have HP := Lib.hid (HC.out.act hP hA)
            clear hP hA
            go_wp2_with fail
            refine (HE.out _ HP.out).mono ?_
            rintro e w6 ⟨rfl, hH, hA⟩
            have HH := Lib.hid (And.intro hH hA)
            clear hH hA
            unfold faultE
            go_wp2_with fail
            refine ⟨rfl, ?_⟩
            rw [HRR.out]
            exact ⟨rfl, F, HH.out.1, HA2.out.trans HH.out.2⟩
          | ok o r2 =>
            have hless := cescF_less hq
            cases o with
            | inl x =>
              have hxC := cescF_C hrC hq
              rw [hq] at hj hesc
              simp only at hj
              have HE := Lib.hid hesc
              have HJ := Lib.hid hj
              have HXC := Lib.hid hxC
              have HML := Lib.hid hmL
              clear hC hmL ha1 hjl hs hdC hrC hesc hq hj hxC
              go_wp2_with fail
              refine HT.out.mono ?_
              rintro e w5 ⟨rfl, hP, hA⟩
              have HP := Lib.hid (HC.out.act hP hA)
              clear hP hA
              go_wp2_with fail
              refine (HE.out _ HP.out).mono ?_
              rintro e w6 ⟨rfl, a2, hC6⟩
              have HC6 := Lib.hid hC6
              have HA2' : Hid (1 ≤ a2) := by
                have h1 := hC6.ps.n
                have h2 := HP.out.ps.n
                show 1 ≤ a2
                simp at h1 h2
                omega
              have HLs := Lib.hid hless
              clear hC6 hless
              go_wp2_with fail
              go_roundw
              case rel => exact ⟨x, m, r2, a2, rfl, HC6.out, HML.out, HA2'.out, .inr ⟨HXC.out, HJ.out.symm⟩⟩
              case measure =>
                have h1 := HP1.out
                have h2 := HC6.out.ps.atIs
                have h3 := HC6.out.ps.n
                have h4 := HC.out.ps.n
                have h5 := HLs.out
                rw [h1, h2]
                simp at h3 h4
                omega
            | inr q =>
              have hqm := cescF_m hq
              rw [hq] at hj hesc
              simp only at hj
              have HE := Lib.hid hesc
              have HJ := Lib.hid hj
              have HML := Lib.hid (mod_or m hmL q hqm)
              have HLs := Lib.hid hless
              have HJl := Lib.hid hjl
              clear hC hmL ha1 hjl hs hdC hrC hesc hq hj hqm hless
              go_wp2_with fail
              refine HT.out.mono ?_
              rintro e w5 ⟨rfl, hP, hA⟩
              have HP := Lib.hid (HC.out.act hP hA)
              clear hP hA
              go_wp2_with fail
              refine (HE.out _ HP.out).mono ?_
              rintro e w6 ⟨rfl, a2, hC6⟩
              have HC6 := Lib.hid hC6
              have HA2' : Hid (1 ≤ a2) := by
                have h1 := hC6.ps.n
                have h2 := HP.out.ps.n
                have h3 := HLs.out
                show 1 ≤ a2
                simp at h1 h2
                omega
              clear hC6
              go_wp2_with fail
              go_roundw
              case rel => exact ⟨-1, _, r2, a2, rfl, HC6.out, HML.out, HA2'.out, .inl ⟨rfl, i, HJ.out, by have h1 := HLs.out; have h2 := HJl.out; simp at h2; omega⟩⟩
              case measure =>
                have h1 := HP1.out
                have h2 := HC6.out.ps.atIs
                have h3 := HC6.out.ps.n
                have h4 := HC.out.ps.n
                have h5 := HLs.out
                rw [h1, h2]
                simp at h3 h4
                omega
        · rw [if_neg e92] at hj
          have n92 : (d == 92) = false := by simpa using e92
          have HJ := Lib.hid hj
          have HDC := Lib.hid hdC
          have HML := Lib.hid hmL
          clear hC hmL ha1 hjl hs hdC hrC hj e92
          go_wp2_with fail
          refine HT.out.mono ?_
          rintro e w5 ⟨rfl, hP, hA⟩
          have HP := Lib.hid (HC.out.act hP hA)
          clear hP hA
          go_wp2_with fail
          go_roundw
          case rel => exact ⟨d, m, r, a1 + 1, rfl, HP.out, HML.out, by omega, .inr ⟨HDC.out, HJ.out.symm⟩⟩
          case measure => have h1 := HP1.out; have h2 := HP.out.ps.atIs; have h3 := HLe.out; rw [h1, h2]; omega
    · subst hRS
      obtain ⟨q0, q1, _⟩ := hcC
      have nm1 : (c == -1) = false := by simp; omega
      have hend := hC.ps.ends HX.out 0 (by omega) (a1 : Int) (by omega)
      rw [List.drop_zero] at hend
      simp only at hend
      obtain ⟨_, _, _, c3, _, _⟩ := Blk.six hC.ps.blk
      have m0 : wr.cell? ⟨n + 1, 0, none⟩ = some (.int .i64 m) := hC.box.cell 0 _ rfl
      have hpos := hC.ps.pos
      have HC := Lib.hid hC
      cases hex : endsB r with
      | false =>
        rw [hex] at hend
        have HE := Lib.hid hend
        have HR2 : Hid (R = .err 5 r.length s.ob s.tb) := by
          show R = _
          rw [HRR.out]
          unfold chrR
          simp only [hex]
          rfl
        have HPo := Lib.hid hpos
        clear hC hmL hend hex hpos hs
        go_wp2_with (first
          | (go_at_call 169; refine HE.out.mono ?_; rintro e w' ⟨rfl, rfl⟩))
        refine ⟨rfl, ?_⟩
        rw [HR2.out]
        exact ⟨by rw [show X.l.length - r.length = a1 from HPo.out]; rfl, F, HC.out.ps.ht, HA2.out.trans HC.out.aft⟩
      | true =>
        rw [hex] at hend
        have HE := Lib.hid hend
        have HMo := Lib.hid (modify_any c m q0 q1 hmL)
        obtain ⟨v, hv⟩ : ∃ v, modifyZ c m = v := ⟨_, rfl⟩
        have HR2 : Hid (R = .ok (0, v) ⟨r, s.ob, s.tb⟩) := by
          show R = _
          rw [HRR.out]
          unfold chrR
          simp only [hex, hv]
          rfl
        rw [hv] at HMo
        have hbx := (hC.aft.blk HB2.out HM.out.f HM.out.p).1
        obtain ⟨b0, b1, e0, e1⟩ := hbx.two
        have HBx := Lib.hid hbx
        clear hC hmL hend hex hpos hs hv hbx
        go_wp2_with (first
          | (go_at_call 169; refine HE.out.mono ?_; rintro e w' ⟨rfl, rfl⟩)
          | (go_at_call 177; refine (HMo.out _).mono ?_; rintro e w' ⟨rfl, rfl⟩))
        have hf := HC.out.ps.put2 (w := w) ⟨HM.out.f, HM.out.p, HM.out.g, HM.out.m, HM.out.low⟩ (HA2.out.trans HC.out.aft) (Nat.le_of_eq HN.out) (.int .i64 0) (.int .i64 v)
        rw [HR2.out]
        refine bodyPost_ret (v := wd (0, v)) (by simp [results, Tryz.results129, go_sem, b0, b1]) rfl ⟨a1, F, rfl, hf.1, hf.2⟩
end Go.Proofs.YtlibdhnlmekmhaaGreatDoor.Rd
end

/- Every form is read as the plain reader reads it. -/
section
namespace Go.Proofs.YtlibdhnlmekmhaaGreatDoor.Rd
set_option maxRecDepth 100000
open Go.RowKit
open Go.Proofs.YtlibdhnlmekmhaaGreatDoor.Own Go.Proofs.YtlibdhnlmekmhaaGreatDoor.Hp Go.Proofs.YtlibdhnlmekmhaaGreatDoor.Rep Go.Proofs.YtlibdhnlmekmhaaGreatDoor.Get Go.Proofs.YtlibdhnlmekmhaaGreatDoor.Add Go.Proofs.YtlibdhnlmekmhaaGreatDoor.Make Go.Proofs.YtlibdhnlmekmhaaGreatDoor.Utf Go.Proofs.YtlibdhnlmekmhaaGreatDoor.Strs
open Go.Proofs.YtlibdhnlmekmhaaGreatDoor.Nt hiding Wd

theorem elemM_len {lim : Nat} : ∀ (k o : Nat) (acc : List Wd) (s : St) (l : List Wd) (y : Wd) (s' : St), elemM lim k o acc s = .ok (l, y) s' → l.length ≤ acc.length + s.rest.length
  | 0, _, _, _, _, _, _, h => by cases h
  | k + 1, o, acc, s, l, y, s', h => by
    rw [elemM_succ] at h
    unfold elemG at h
    have hs := (skipF_suf s.rest false).length_le
    split at h
    · cases h; omega
    · split at h
      · unfold tailG at h
        split at h
        · split at h
          · cases h
          · split at h
            · cases h; omega
            · cases h
        · cases h
      · split at h
        · rename_i x s2 hf
          have h1 := elemM_len k o _ _ _ _ _ h
          have h2 := (formM_lt hf).2
          simp only [List.length_append, List.length_cons, List.length_nil] at h1
          have h3 : s2.rest.length < (skipF false s.rest).length := h2
          omega
        · cases h
theorem PS.list {X : Fx} {w : World} {a op : Nat} {s : St} {F : Nat → Prop} (h : PS X w a op s F) (hX : X.Ok) {c0 : Int} {t : List Int} (hr : s.rest = c0 :: t)
    {k : Nat} (hk : 2 * s.rest.length ≤ k) (hF : ∀ j, j < k → FormOk X j) (hnf : NF (listG X.lim (elemM X.lim k (op + 1) []) op s)) :
    Calls Tryz.prog 121 #[pptr X.p] w (Out X w op F retW (listG X.lim (elemM X.lim k (op + 1) []) op s)) := by
  unfold listG at hnf ⊢
  by_cases ho : op = 200
  · rw [if_pos ho]
    exact listE h hX hr hk hF (by omega) (.inl ⟨ho, rfl⟩)
  rw [if_neg ho] at hnf ⊢
  have htl : s.rest.tail = t := by rw [hr]; rfl
  rw [htl] at hnf ⊢
  cases hq : elemM X.lim k (op + 1) [] ⟨t, s.ob, s.tb⟩ with
  | err c m ob tb =>
    rw [hq] at hnf
    exact listE h hX hr hk hF hnf (.inr ⟨ho, hq⟩)
  | ok p s2 =>
    obtain ⟨l, y⟩ := p
    rw [hq] at hnf
    dsimp only at hnf ⊢
    have hlen := elemM_len _ _ _ _ _ _ _ hq
    have hs := hX.short
    have hn := h.n
    have hll : l.length ≤ 1000000 := by
      simp at hlen
      rw [hr] at hn
      simp at hn
      omega
    by_cases h0 : (consR X.lim l.reverse y s2.ob).2.1 = 0
    · rw [if_pos h0]
      have hfit := consR_fits h0 (manyTo_le _ _)
      rw [consR_fold hfit]
      rw [List.length_reverse] at hfit
      exact listO h hX hr hk hF ho hq hll hfit
    · rw [if_neg h0] at hnf
      rcases consR_err (lim := X.lim) (l := l.reverse) (w := y) (ob := s2.ob) with e | e
      · exact (h0 e).elim
      · exact (hnf e).elim

theorem formOk {X : Fx} (hX : X.Ok) (k : Nat) : FormOk X k := by
  induction k using Nat.strongRecOn with
  | ind k ih =>
    intro o N j hj hN w a s F hP hlen hnf
    by_cases hjk : j < k
    · exact ih j hjk o N j (Nat.le_refl _) hN w a s F hP hlen hnf
    obtain rfl : j = k := by omega
    obtain ⟨K, rfl⟩ : ∃ K, j = K + 1 := ⟨j - 1, by omega⟩
    have ihK : ∀ j, j < K → FormOk X j := fun j hj => ih j (by omega)
    rw [formM_succ] at hnf ⊢
    unfold formG at hnf ⊢
    cases hsk : skipF false s.rest with
    | nil => exact form_end hP hX hsk
    | cons c r =>
      rw [hsk] at hnf
      dsimp only at hnf ⊢
      have hsl := (skipF_suf s.rest false).length_le
      rw [hsk] at hsl
      have hcr : 2 * (c :: r).length ≤ K := by omega
      have hF1 : Runs X 68 (o + 1) ((c :: r).length - 1) retW (formM X.lim K (o + 1)) := ih K (Nat.lt_succ_self _) (o + 1) _ K (Nat.le_refl _) (by simp at hcr ⊢; omega)
      have hpos : 1 ≤ (c :: r).length := by simp
      unfold headG at hnf ⊢
      by_cases c40 : c = 40
      · rw [if_pos c40] at hnf ⊢
        exact form_fn hP hX hsk (fn := 121) (by rw [c40]; rfl) (enters_of Tryz.func121 (by kernel_rfl) rfl) fun W a1 h1 => h1.list hX rfl hcr ihK hnf
      rw [if_neg c40] at hnf ⊢
      by_cases c41 : c = 41 ∨ c = 93
      · rw [if_pos c41]
        exact form_fn hP hX hsk (fn := 122) (by rcases c41 with e | e <;> rw [e] <;> rfl) (enters_of Tryz.func122 (by kernel_rfl) rfl) fun W a1 h1 => h1.stray.mono fun e w' ⟨he, hb⟩ => ⟨he, F, (h1.later hb).ht, .of_below hb⟩
      rw [if_neg c41] at hnf ⊢
      by_cases c91 : c = 91
      · rw [if_pos c91] at hnf ⊢
        exact form_fn hP hX hsk (fn := 123) (by rw [c91]; rfl) (enters_of Tryz.func123 (by kernel_rfl) rfl) fun W a1 h1 => h1.vector hX rfl hcr ihK hnf
      rw [if_neg c91] at hnf ⊢
      by_cases c39 : c = 39
      · rw [if_pos c39] at hnf ⊢
        exact form_fn hP hX hsk (fn := 124) (by rw [c39]; rfl) (enters_of Tryz.func124 (by kernel_rfl) rfl) fun W a1 h1 => h1.quote hX hpos hF1 hnf
      rw [if_neg c39] at hnf ⊢
      by_cases c96 : c = 96
      · rw [if_pos c96] at hnf ⊢
        exact form_fn hP hX hsk (fn := 125) (by rw [c96]; rfl) (enters_of Tryz.func125 (by kernel_rfl) rfl) fun W a1 h1 => h1.back hX hpos hF1 hnf
      rw [if_neg c96] at hnf ⊢
      by_cases c44 : c = 44
      · rw [if_pos c44] at hnf ⊢
        exact form_fn hP hX hsk (fn := 126) (by rw [c44]; rfl) (enters_of Tryz.func126 (by kernel_rfl) rfl) fun W a1 h1 => h1.comma hX hpos hF1 hnf
      rw [if_neg c44] at hnf ⊢
      by_cases c35 : c = 35
      · rw [if_pos c35] at hnf ⊢
        exact form_fn hP hX hsk (fn := 127) (by rw [c35]; rfl) (enters_of Tryz.func127 (by kernel_rfl) rfl) fun W a1 h1 => h1.hash hX hpos hF1 hnf
      rw [if_neg c35] at hnf ⊢
      by_cases c34 : c = 34
      · rw [if_pos c34]
        exact form_fn hP hX hsk (fn := 128) (by rw [c34]; rfl) (enters_of Tryz.func128 (by kernel_rfl) rfl) fun W a1 h1 => h1.text hX rfl
      rw [if_neg c34] at hnf ⊢
      by_cases c63 : c = 63
      · rw [if_pos c63]
        exact form_fn hP hX hsk (fn := 129) (by rw [c63]; rfl) (enters_of Tryz.func129 (by kernel_rfl) rfl) fun W a1 h1 => h1.character hX rfl
      rw [if_neg c63]
      obtain ⟨h59, hbl⟩ := skipF_head _ _ _ _ hsk
      have hdel : delimB c = false := by
        unfold delimB
        simp only [hbl, Bool.or_false, Bool.or_eq_false_iff, beq_eq_false_iff_ne]
        simp only [not_or] at c41
        refine ⟨⟨⟨⟨⟨⟨⟨⟨c40, c41.1⟩, c91⟩, c41.2⟩, c34⟩, c39⟩, c96⟩, c44⟩, h59⟩
      exact form_token hP hX hsk (by unfold rdF; rw [if_neg c40, if_neg c41, if_neg c91, if_neg c39, if_neg c96, if_neg c44, if_neg c35, if_neg c34, if_neg c63]) fun W a1 h1 => h1.token hX rfl hdel
end Go.Proofs.YtlibdhnlmekmhaaGreatDoor.Rd
end
