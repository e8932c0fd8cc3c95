/- The contract of All. | The contracts of Car, Cdr, SetCar, SetCdr, isNil. -/
import Derived.RegionTactic
import Derived.Laws.StructEq
import Derived.Test.YtlibdhnlmekmhaaGreatDoorMg09
import Derived.Test.YtlibdhnlmekmhaaGreatDoorMg31
/- The contract of All. -/
section
namespace Go.Proofs.YtlibdhnlmekmhaaGreatDoor.Rd
set_option maxRecDepth 100000
open Go.RowKit Go.Maps Go.Lib
open Go.Proofs.YtlibdhnlmekmhaaGreatDoor.Own Go.Proofs.YtlibdhnlmekmhaaGreatDoor.Hp Go.Proofs.YtlibdhnlmekmhaaGreatDoor.Rep Go.Proofs.YtlibdhnlmekmhaaGreatDoor.Get Go.Proofs.YtlibdhnlmekmhaaGreatDoor.Add Go.Proofs.YtlibdhnlmekmhaaGreatDoor.Make Go.Proofs.YtlibdhnlmekmhaaGreatDoor.Utf Go.Proofs.YtlibdhnlmekmhaaGreatDoor.Strs Go.Proofs.YtlibdhnlmekmhaaGreatDoor.Clone
open Go.Proofs.YtlibdhnlmekmhaaGreatDoor.Nt hiding Wd

/-- The box of All's fault, and what it has done to the heap and the table. -/
structure RB (w w3 : World) (base hp lim tp : Nat) (F F' : Nat → Prop) (ob : Obs) (tb : Tb) (n : Nat) : Prop where
  hn : w.heap.size = n
  st : HT w3 base hp lim tp ob tb F' ∧ HAfter w w3 F F F' ∧ ¬ F' n
  b2 : Blk w3 n #[.int .i64 0, .int .i64 0] 31
theorem RB.keeps {w w3 V : World} {base hp lim tp n : Nat} {ob : Obs} {tb : Tb} {F F' : Nat → Prop} (h : RB w w3 base hp lim tp F F' ob tb n) (hk : Keeps (fun b => b = n) w3 V) : HT V base hp lim tp ob tb F' ∧ HAfter w V F F F' := by
  obtain ⟨h1, h2, h3⟩ := h.st
  have hn := h.hn
  refine ⟨h1.keeps hk fun b e => ?_, ⟨h2.keeps.then hk fun b hlt e => by omega, h2.grow⟩⟩
  rw [e]; assumption
theorem RB.par {w w3 w' : World} {n : Nat} {ob' : Obs} {tb' : Tb} {F F' : Nat → Prop} {X : Fx} (hn : w.heap.size = n) (hb : Below w.heap.size w w3) (b2 : Blk w3 n #[.int .i64 0, .int .i64 0] 31) (f2 : ¬ F n)
    (hp : n < X.p) (hH : HT w' X.base X.hp X.lim X.tp ob' tb' F') (hA : PAfter X w3 w' F F') : RB w w' X.base X.hp X.lim X.tp F F' ob' tb' n := by
  have hs := hb.size
  refine ⟨hn, ⟨hH, ⟨(Keeps.of_below hb).then hA.keeps fun b hlt e => e.elim id fun e => by omega, fun b hF => ?_⟩, hA.old b2.lt f2⟩, (hA.blk b2 f2 (by omega)).1⟩
  rcases hA.grow b hF with e | e
  · exact .inl e
  · exact .inr (by omega)
theorem allM_skip (lim k j : Nat) (acc : List Wd) (s : St) : allM lim k j acc ⟨skipF false s.rest, s.ob, s.tb⟩ = allM lim k j acc s := by
  cases j with
  | zero => rfl
  | succ j => unfold allM; simp only [skipF_skipF]
/-- Between two rounds: the forms so far. -/
def AllAt (X : Fx) (w2 wr : World) (F : Nat → Prop) (R : Res (List Wd)) (u : Value) : Prop :=
  ∃ (l : List Wd) (a' : Nat) (r : List Int) (ob : Obs) (tb : Tb) (F' : Nat → Prop) (j : Nat),
    PR X w2 wr a' 0 ⟨r, ob, tb⟩ F F' u l ∧ skipF false r = r ∧ allM X.lim (2 * X.l.length + 1) j l ⟨r, ob, tb⟩ = R ∧ r.length + 1 ≤ j ∧ l.length + r.length ≤ X.l.length
theorem AllAt.skip {X : Fx} {w2 wr wq : World} {a j : Nat} {s : St} {F F1 : Nat → Prop} {R : Res (List Wd)} {u : Value} {l : List Wd} (h : PR X w2 wr a 0 s F F1 u l) (hR : allM X.lim (2 * X.l.length + 1) j l s = R) (hj : s.rest.length + 1 ≤ j) (hl : l.length + s.rest.length ≤ X.l.length)
    (hA : At X wr wq 0 s F1 (fun r => r = skipF false s.rest)) : AllAt X w2 wq F R u := by
  obtain ⟨a', r, hP, hA, rfl⟩ := hA
  have := (skipF_suf s.rest false).length_le
  exact ⟨l, a', skipF false s.rest, s.ob, s.tb, F1, j, h.act hP hA, skipF_skipF _ _, by rw [allM_skip]; exact hR, by omega, by omega⟩
/-- What All answers. -/
def AllOut (w : World) (base hp lim tp : Nat) (F : Nat → Prop) (L : List Int) (R : Res (List Wd)) (e : Ending) (w' : World) : Prop :=
  match R with
  | .ok l s => (∃ A c, e = .returned (.tuple #[.slice A l.length c, .agg #[.int .i64 0, .int .i64 0]]) ∧ w'.ownsRow w.heap.size 28 2 (.slice A l.length c) l.length (wcells l) ∧ ∃ F', HT w' base hp lim tp s.ob s.tb F' ∧ HAfter w w' F F F' ∧ ∀ g, (Value.slice A l.length c).ownBlock = some g → ¬ F' g)
  | .err c m ob tb => e = .returned (.tuple #[.slice none 0 0, .agg #[.int .i64 c, .int .i64 ((L.length - m : Nat) : Int)]]) ∧ HTOk w w' base hp lim tp ob tb F

set_option maxHeartbeats 4000000 in
theorem all_yes {w0 w : World} {base hp lim tp : Nat} {ob : Obs} {tb : Tb} {F : Nat → Prop} (h : HT w base hp lim tp ob tb F) (hb : Below w0.heap.size w0 w) (hbase : w0.heap.size ≤ base) (hS : Sys w0) (h1 : 0 < tb.syms.length)
    (u : ByteArray) (hu : u.size < 1000000) (hv : validD u.data.toList = true) {L : List Int} (hL : runes u.data.toList = L) {R : Res (List Wd)} (hR : allM lim (2 * L.length + 1) (L.length + 1) [] ⟨L, ob, tb⟩ = R) (hnf : NF R) :
    Calls Tryz.prog 18 #[ptr hp, tptr tp, .string u] w (AllOut w base hp lim tp F L R) := by
  have hmf : ∀ (fn : Fn) (first cap : Array Value) (w : World), (Instr.makeFunc fn first cap).run Tryz.prog w = .ok (.func fn first cap) w := fun _ _ _ _ => rfl
  have hb2 : Below w.heap.size w (w.alloc fbox0) := bel_box _ _
  have HN := Lib.hid (newParser_ok (h.below hb2) (hb.trans (hb2.mono hb.size)) hbase hS h1 u hu hv)
  rw [hL] at HN
  have HF1 := Lib.hid (h.fresh (b := w.heap.size) (Nat.le_refl _))
  have HB2 := Lib.hid hb2
  have HRe := Lib.hid hR
  have HNF := Lib.hid hnf
  have HK2 := Lib.hid (Blk.new w #[.int .i64 0, .int .i64 0] 31)
  obtain ⟨n, hn⟩ : ∃ n, w.heap.size = n := ⟨_, rfl⟩
  have HNn := Lib.hid hn
  rw [hn] at HF1 HK2
  obtain ⟨i0, hi, hz0, hz1, hz2⟩ := info_parts word_info
  have HI := Lib.hid hi
  have HZ0 := Lib.hid hz0
  have HZ1 := Lib.hid hz1
  have HZ2 := Lib.hid hz2
  clear hi hz0 hz1 hz2
  clear h hb hbase hS h1 hu hv hL hb2 hR hnf hn
  go_enter_defers Tryz.func18, Tryz.ntmps18
  go_wp2_with fail
  rw [HNn.out]
  refine HN.out.mono ?_
  rintro e w3 ⟨X, hX, hw0, hbs, hhp, hlm, htp, hl, rfl, hP, hb3, hp3⟩
  have HEq := Lib.hid (show X.base = base ∧ X.hp = hp ∧ X.lim = lim ∧ X.tp = tp ∧ X.l = L from ⟨hbs, hhp, hlm, htp, hl⟩)
  have HX := Lib.hid hX
  have HP := Lib.hid hP
  have HB3 := Lib.hid hb3
  have HK3 := Lib.hid (HK2.out.below hb3)
  have HXp := Lib.hid (show n < X.p by have := HNn.out; simp at hp3; omega)
  clear hX hw0 hbs hhp hlm htp hl hP hb3 hp3
  go_wp2_with fail
  refine (HP.out.skip HX.out).mono ?_
  rintro e w4 ⟨rfl, hat⟩
  have HV := Lib.hid (AllAt.skip (R := R) (j := L.length + 1) (PR.start HP.out) (by rw [HEq.out.2.2.1, HEq.out.2.2.2.2]; exact HRe.out) (Nat.le_refl _) (by simp [HEq.out.2.2.2.2]) hat)
  clear hat
  go_wp2_with fail
  go_loopw [9] (fun u wr => AllAt X w3 wr F R u) (fun _ wr => X.l.length - atOf wr X.p)
  case atStart => exact HV.out
  case round =>
    obtain ⟨l, a1, q, ob1, tb1, F1, j, hPR, hsk, hj, hj2, hll⟩ := hrel
    have hs := HX.out.short
    obtain ⟨A0, cp0, rfl⟩ := hPR.len
    have HPR := Lib.hid hPR
    have HNx := Lib.hid (hPR.ps.next HX.out)
    obtain ⟨i, rfl⟩ : ∃ i, j = i + 1 := ⟨j - 1, by omega⟩
    unfold allM at hj
    simp only [hsk] at hj
    cases q with
    | nil =>
      rw [if_pos rfl] at hj
      dsimp only [nx] at HNx
      have HR5 := Lib.hid (RB.par HNn.out (HB2.out.trans (HB3.out.mono HB2.out.size)) HK3.out HF1.out HXp.out hPR.ps.ht hPR.aft)
      rw [HEq.out.1, HEq.out.2.1, HEq.out.2.2.1, HEq.out.2.2.2.1] at HR5
      have HRow := Lib.hid (owns_low (b0 := n) hPR.row (by have := HB2.out.size; have := HB3.out.size; have := HNn.out; omega))
      have HNb : Hid (∀ g, (Value.slice A0 l.length cp0).ownBlock = some g → g ≠ n) := fun g hg => by
        have h1 := (hPR.row.lt g hg).1
        have h2 := HK3.out.lt
        omega
      have HMi : Hid (∀ g, (Value.slice A0 l.length cp0).ownBlock = some g → ¬ F1 g) := fun g hg => (hPR.mine g hg).f
      have HJ := Lib.hid hj
      obtain ⟨f0, f1, f2, f3⟩ := HR5.out.b2.two
      clear hPR hsk hj hj2 hll hs
      go_wp2_with (first
        | (go_at_call 67; refine HNx.out.mono ?_; rintro e w' ⟨rfl, rfl⟩))
      go_region
      clear f0 f1 f2 f3
      have hk1 : Keeps (fun q => q = n) wr ((wr.setCell ⟨n, 0, none⟩ (.int .i64 0)).setCell ⟨n, 1, none⟩ (.int .i64 0)).drew := ⟨rfl, rfl, rfl, ((keeps_set wr n 0 (.int .i64 0)).trans (keeps_set _ n 1 (.int .i64 0))).size, ((keeps_set wr n 0 (.int .i64 0)).trans (keeps_set _ n 1 (.int .i64 0))).block⟩
      have hb2 : Blk ((wr.setCell ⟨n, 0, none⟩ (.int .i64 0)).setCell ⟨n, 1, none⟩ (.int .i64 0)).drew n #[.int .i64 0, .int .i64 0] 31 := by
        have h2 := (HR5.out.b2.set 0 (.int .i64 0)).set 1 (.int .i64 0)
        simpa [Blk, World.drew] using h2
      obtain ⟨W9, hW9⟩ : ∃ W9, ((wr.setCell ⟨n, 0, none⟩ (.int .i64 0)).setCell ⟨n, 1, none⟩ (.int .i64 0)).drew = W9 := ⟨_, rfl⟩
      rw [hW9] at hk1 hb2 ⊢
      clear hW9
      have hk2 := hk1.trans ((keeps_set W9 n 0 (.int .i64 0)).trans (keeps_set _ n 1 (.int .i64 0)))
      have hok := HR5.out.keeps hk2
      have hrw := owns_keeps HRow.out hk2 HNb.out
      have hb3 : Blk ((W9.setCell ⟨n, 0, none⟩ (.int .i64 0)).setCell ⟨n, 1, none⟩ (.int .i64 0)) n #[.int .i64 0, .int .i64 0] 31 := by simpa using (hb2.set 0 (.int .i64 0)).set 1 (.int .i64 0)
      have HB9 := Lib.hid hb2
      have HOk := Lib.hid (And.intro hok hrw)
      have HG := Lib.hid hb3.two
      clear hk1 hk2 hb2 hok hrw hb3
      go_wp2_with fail
      refine leaves_cons (f := 72) (args := #[.pointer (some ⟨n, 0, none⟩)]) (by simp) (by simp [go_sem]) ?_
      refine (idle_all n 0 0 _ HB9.out).mono ?_
      rintro e u' w'' ⟨rfl, rfl, rfl⟩
      obtain ⟨f0, f1, _, _⟩ := HG.out
      simp [Leaves, settle, results, Tryz.results18, go_sem, f0, f1]
      rw [← HJ.out]
      exact ⟨A0, cp0, rfl, by rw [HNn.out]; exact HOk.out.2, F1, HOk.out.1.1, HOk.out.1.2, HMi.out⟩
    | cons c0 r0 =>
      rw [if_neg (by simp)] at hj
      have hcc : isC c0 := HX.out.chars c0 (List.mem_of_mem_drop (by rw [hPR.ps.at_]; simp))
      have hv1 : (c0 != -1) = true := by have := hcc.1; simp; omega
      dsimp only [nx] at HNx
      have hNle : 2 * (c0 :: r0).length + 1 ≤ 2 * X.l.length + 1 := by omega
      cases hq : formM X.lim (2 * X.l.length + 1) 0 ⟨c0 :: r0, ob1, tb1⟩ with
      | err c m ob' tb' =>
        rw [hq] at hj
        dsimp only at hj
        have hRun : NF (formM X.lim (2 * X.l.length + 1) 0 ⟨c0 :: r0, ob1, tb1⟩) := by
          rw [hq]
          have := HNF.out
          rw [← hj] at this
          exact this
        have HFm := Lib.hid (formOk HX.out _ 0 _ _ (Nat.le_refl _) hNle _ _ _ _ hPR.ps (Nat.le_refl _) hRun)
        rw [hq] at HFm
        have HJ := Lib.hid hj
        clear hPR hsk hj hj2 hll hs hq hRun hcc hNle
        go_wp2_with (first
          | (go_at_call 67; refine HNx.out.mono ?_; rintro e w' ⟨rfl, rfl⟩))
        refine HFm.out.mono ?_
        rintro e w5 ⟨rfl, F', hH, hA⟩
        have HR5 := Lib.hid (RB.par HNn.out (HB2.out.trans (HB3.out.mono HB2.out.size)) HK3.out HF1.out HXp.out hH (HPR.out.aft.trans hA))
        rw [HEq.out.1, HEq.out.2.1, HEq.out.2.2.1, HEq.out.2.2.2.1] at HR5
        obtain ⟨k, hk⟩ : ∃ k : Nat, X.l.length - m = k := ⟨_, rfl⟩
        have HKk := Lib.hid hk
        unfold faultE
        rw [hk]
        clear hH hA hk
        go_wp2_with fail
        refine leaves_cons (f := 72) (args := #[.pointer (some ⟨n, 0, none⟩)]) (by simp) (by simp [go_sem]) ?_
        refine (catch_all n 0 0 c (k : Int) [] _ HR5.out.b2).mono ?_
        rintro e u' w'' ⟨rfl, rfl, rfl⟩
        have hok := HR5.out.keeps ((keeps_set w5 n 0 (.int .i64 c)).trans (keeps_set _ n 1 (.int .i64 (k : Int))))
        have hb9 : Blk ((w5.setCell ⟨n, 0, none⟩ (.int .i64 c)).setCell ⟨n, 1, none⟩ (.int .i64 (k : Int))) n #[.int .i64 c, .int .i64 (k : Int)] 31 := by simpa using (HR5.out.b2.set 0 (.int .i64 c)).set 1 (.int .i64 (k : Int))
        obtain ⟨f0, f1, _, _⟩ := hb9.two
        simp [Leaves, settle, results, Tryz.results18, go_sem, f0, f1]
        rw [← HJ.out]
        exact ⟨by rw [← HEq.out.2.2.2.2, HKk.out], F', hok.1, hok.2⟩
      | ok x s2 =>
        rw [hq] at hj
        dsimp only at hj
        have hlt := (formM_lt hq).2
        have hRun : NF (formM X.lim (2 * X.l.length + 1) 0 ⟨c0 :: r0, ob1, tb1⟩) := by rw [hq]; trivial
        have HFm := Lib.hid (formOk HX.out _ 0 _ _ (Nat.le_refl _) hNle _ _ _ _ hPR.ps (Nat.le_refl _) hRun)
        rw [hq] at HFm
        have HJ := Lib.hid hj
        have HLt := Lib.hid (show s2.rest.length < (c0 :: r0).length from hlt)
        have HBn := Lib.hid (show s2.rest.length + 1 ≤ i ∧ (l ++ [x]).length + s2.rest.length ≤ X.l.length by
          have : s2.rest.length < (c0 :: r0).length := hlt
          refine ⟨by omega, ?_⟩
          rw [List.length_append]
          simp at this hll ⊢
          omega)
        have HBd : Hid (l.length + 1 ≤ maxLen ∧ (l.length + 1) * 16 ≤ 140737488355328) := Lib.hid ⟨by unfold maxLen; omega, by omega⟩
        have HPa := Lib.hid hPR.ps.atIs
        have HPn := Lib.hid hPR.ps.n
        clear hPR hsk hj hj2 hll hs hq hRun hlt hcc hNle
        go_wp2_with (first
          | (go_at_call 67; refine HNx.out.mono ?_; rintro e w' ⟨rfl, rfl⟩))
        refine HFm.out.mono ?_
        rintro e w5 ⟨a5, F5, rfl, hP, hA⟩
        have HPR5 := Lib.hid (HPR.out.act hP hA)
        clear hP hA
        go_wp2_with (at_builtin; go_loud (refine wpList_append_place rfl (.tmp 22) (.tmp 25) 36 rfl w3.heap.size 28 i0 (.agg #[.int .i64 0, .int .i64 0]) 2 16 Tryz.underlying36 HI.out HZ0.out HZ1.out HZ2.out rfl (by decide) (.slice A0 l.length cp0) l.length (wcells l) rfl (HPR5.out.later (bel_box _ _)).row ⟨_, 0, none⟩ 1 1 [.int .i64 x.1, .int .i64 x.2] rfl rfl (new_cells _ _ _ _) (new_one _ _) HBd.out.1 HBd.out.2 (Nat.le_trans HPR5.out.aft.keeps.size (bel_box _ _).size) ?_))
        intro A6 c6 w6 hap
        have HPR6 := Lib.hid ((HPR5.out.later (bel_box _ _)).push hap)
        clear hap
        go_wp2_with fail
        refine (HPR6.out.ps.skip HX.out).mono ?_
        rintro e w7 ⟨rfl, hat⟩
        have HV7 := Lib.hid (AllAt.skip HPR6.out HJ.out HBn.out.1 HBn.out.2 hat)
        have HMe : Hid (X.l.length - atOf w7 X.p < X.l.length - atOf wr X.p) := by
          obtain ⟨a7, q7, hP7, _, rfl⟩ := hat
          have e1 := hP7.atIs
          have e2 := hP7.n
          have e3 := HPa.out
          have e4 := HPn.out
          have e5 := HLt.out
          have e6 := (skipF_suf s2.rest false).length_le
          show _ - _ < _ - _
          rw [e1, e3]
          simp at e2 e4 e5
          omega
        clear hat
        go_wp2_with fail
        go_roundw
        case rel => exact HV7.out
        case measure => exact HMe.out
end Go.Proofs.YtlibdhnlmekmhaaGreatDoor.Rd
end

/- The contracts of Car, Cdr, SetCar, SetCdr, isNil. -/
section
namespace Go.Proofs.YtlibdhnlmekmhaaGreatDoor.Car
open Go.RowKit
open Go.Proofs.YtlibdhnlmekmhaaGreatDoor.Own Go.Proofs.YtlibdhnlmekmhaaGreatDoor.Hp Go.Proofs.YtlibdhnlmekmhaaGreatDoor.HeapOrd Go.Proofs.YtlibdhnlmekmhaaGreatDoor.Rep Go.Proofs.YtlibdhnlmekmhaaGreatDoor.Base Go.Proofs.YtlibdhnlmekmhaaGreatDoor.Find Go.Proofs.YtlibdhnlmekmhaaGreatDoor.Get

theorem isNil_yes (w : World) :
    Calls Tryz.prog 70 #[wd (1, 0)] w fun e w' => e = .returned (.bool true) ∧ Below w.heap.size w w' := by
  go_enter Tryz.func70, Tryz.ntmps70
  go_wp2
  go_ret
  exact ⟨rfl, (Below.refl _ _).alloc (Nat.le_refl _) _⟩
theorem isNil_no (k n : Int) (w : World) (h : ¬ (k = 1 ∧ n = 0)) :
    Calls Tryz.prog 70 #[wd (k, n)] w fun e w' => e = .returned (.bool false) ∧ Below w.heap.size w w' := by
  by_cases h1 : k = 1
  · have h2 : (n == 0) = false := beq_eq_false_iff_ne.2 fun hn => h ⟨h1, hn⟩
    subst h1
    clear h
    go_enter Tryz.func70, Tryz.ntmps70
    go_wp2
    go_ret
    exact ⟨rfl, (Below.refl _ _).alloc (Nat.le_refl _) _⟩
  · have h2 : (k == 1) = false := beq_eq_false_iff_ne.2 h1
    clear h h1
    go_enter Tryz.func70, Tryz.ntmps70
    go_wp2
    go_ret
    exact ⟨rfl, (Below.refl _ _).alloc (Nat.le_refl _) _⟩
theorem isNil_null (x : Wd) (hx : x = (1, 0)) (w : World) : Calls Tryz.prog 70 #[wd x] w fun e w' => e = .returned (.bool true) ∧ Below w.heap.size w w' := by
  subst hx; exact isNil_yes w
theorem isNil_other (x : Wd) (hx : x ≠ (1, 0)) (w : World) : Calls Tryz.prog 70 #[wd x] w fun e w' => e = .returned (.bool false) ∧ Below w.heap.size w w' :=
  isNil_no x.1 x.2 w fun h => hx (Prod.ext h.1 h.2)

/-- What Car returns. -/
def carO (ob : Obs) (x : Wd) : Wd × Int := if x = (1, 0) then ((1, 0), 0) else match findO ob x with | some (.cons a _) => (a, 0) | _ => ((0, 0), 6)
set_option maxHeartbeats 1000000 in
theorem car_null (hp : Nat) (x : Wd) (hx : x = (1, 0)) (w : World) (V : ∀ w', Below w.heap.size w w' → Calls Tryz.prog 69 #[ptr hp] w' fun e w'' => e = .returned (.bool true) ∧ w' = w'') :
    Calls Tryz.prog 17 #[ptr hp, wd x] w fun e w' => e = .returned (.tuple #[wd (1, 0), .int .i64 0]) ∧ Below w.heap.size w w' := by
  subst hx
  have HV := Lib.hid V
  have HN := Lib.hid isNil_yes
  have hb := ((Below.refl w.heap.size w).alloc (Nat.le_refl _) (.cells #[.int .i64 1, .int .i64 0] 28)).alloc (by simp) (.cells #[.int .i64 0, .int .i64 0] 28)
  clear V
  go_enter Tryz.func17, Tryz.ntmps17
  go_wp2_with (fail)
  refine (HV.out _ hb).mono ?_
  rintro e w1 ⟨rfl, rfl⟩
  go_wp2_with (fail)
  refine (HN.out _).mono ?_
  rintro e w2 ⟨rfl, hb2⟩
  obtain ⟨n1, n2⟩ := two_new hb2
  obtain ⟨b0, b1, -, -⟩ := n1.two
  obtain ⟨c0, c1, d0, d1⟩ := n2.two
  clear n1 n2
  go_wp2_with (fail)
  refine bodyPost_ret (v := .tuple #[wd (1, 0), .int .i64 0]) (by simp [results, Tryz.results17, go_sem, c0, c1]) rfl ⟨rfl, ?_⟩
  exact ((hb.trans (hb2.mono (by simp; omega))).setCell (by simp) _).setCell (by simp) _
set_option maxHeartbeats 1000000 in
theorem car_no (hp : Nat) (x : Wd) (hx : x ≠ (1, 0)) (w : World) (V : ∀ w', Below w.heap.size w w' → Calls Tryz.prog 69 #[ptr hp] w' fun e w'' => e = .returned (.bool true) ∧ w' = w'')
    (G : Reads w 71 #[ptr hp, wd x] (.tuple #[.pointer none, .int .i64 6])) :
    Calls Tryz.prog 17 #[ptr hp, wd x] w fun e w' => e = .returned (.tuple #[wd (0, 0), .int .i64 6]) ∧ Below w.heap.size w w' := by
  have HV := Lib.hid V
  have HN := Lib.hid (isNil_other x hx)
  have HG := Lib.hid G
  have hb := ((Below.refl w.heap.size w).alloc (Nat.le_refl _) (.cells #[.int .i64 x.1, .int .i64 x.2] 28)).alloc (by simp) (.cells #[.int .i64 0, .int .i64 0] 28)
  clear V G hx
  go_enter Tryz.func17, Tryz.ntmps17
  go_wp2_with (fail)
  refine (HV.out _ hb).mono ?_
  rintro e w1 ⟨rfl, rfl⟩
  go_wp2_with (fail)
  refine (HN.out _).mono ?_
  rintro e w2 ⟨rfl, hb2⟩
  obtain ⟨n1, n2⟩ := two_new hb2
  obtain ⟨b0, b1, -, -⟩ := n1.two
  have hbb := hb.trans (hb2.mono (by simp; omega))
  clear hb
  go_wp2_with (fail)
  refine (HG.out _ hbb).mono ?_
  rintro e w3 ⟨rfl, hb3⟩
  obtain ⟨c0, c1, d0, d1⟩ := (n2.below hb3).two
  have hs3 := hb3.size
  have hs2 := n2.lt
  clear n1 n2 b0 b1
  go_wp2_with (fail)
  refine bodyPost_ret (v := .tuple #[wd (0, 0), .int .i64 6]) (by simp [results, Tryz.results17, go_sem, c0, c1]) rfl ⟨rfl, ?_⟩
  exact ((hbb.trans (hb3.mono hbb.size)).setCell (by simp) _).setCell (by simp) _
set_option maxHeartbeats 1000000 in
theorem car_yes (hp gc : Nat) (a d : Wd) (x : Wd) (hx : x ≠ (1, 0)) (w : World) (V : ∀ w', Below w.heap.size w w' → Calls Tryz.prog 69 #[ptr hp] w' fun e w'' => e = .returned (.bool true) ∧ w' = w'')
    (G : Reads w 71 #[ptr hp, wd x] (.tuple #[ptr gc, .int .i64 0])) (B : Blk w gc #[.int .i64 a.1, .int .i64 a.2, .int .i64 d.1, .int .i64 d.2] 97) :
    Calls Tryz.prog 17 #[ptr hp, wd x] w fun e w' => e = .returned (.tuple #[wd a, .int .i64 0]) ∧ Below w.heap.size w w' := by
  have HV := Lib.hid V
  have HN := Lib.hid (isNil_other x hx)
  have HG := Lib.hid G
  have hb := ((Below.refl w.heap.size w).alloc (Nat.le_refl _) (.cells #[.int .i64 x.1, .int .i64 x.2] 28)).alloc (by simp) (.cells #[.int .i64 0, .int .i64 0] 28)
  clear V G hx
  go_enter Tryz.func17, Tryz.ntmps17
  go_wp2_with (fail)
  refine (HV.out _ hb).mono ?_
  rintro e w1 ⟨rfl, rfl⟩
  go_wp2_with (fail)
  refine (HN.out _).mono ?_
  rintro e w2 ⟨rfl, hb2⟩
  obtain ⟨n1, n2⟩ := two_new hb2
  obtain ⟨b0, b1, -, -⟩ := n1.two
  have hbb := hb.trans (hb2.mono (by simp; omega))
  clear hb
  go_wp2_with (fail)
  refine (HG.out _ hbb).mono ?_
  rintro e w3 ⟨rfl, hb3⟩
  obtain ⟨c0, c1, d0, d1⟩ := (n2.below hb3).two
  have hbc := hbb.trans (hb3.mono hbb.size)
  obtain ⟨o0, o1, o2, o3⟩ := (B.below hbc).four
  clear n1 n2 b0 b1 hbb hb3
  go_wp2_with (fail)
  refine bodyPost_ret (v := .tuple #[wd a, .int .i64 0]) (by simp [results, Tryz.results17, go_sem, c0, c1]) rfl ⟨rfl, ?_⟩
  exact (hbc.setCell (by simp) _).setCell (by simp) _
theorem car_any {w : World} {base hp lim : Nat} {ob : Obs} {lab : Nat → Option Lab} {P : Parts} (h : HeapIs w base hp lim ob lab P) (x : Wd) :
    Reads w 17 #[ptr hp, wd x] (.tuple #[wd (carO ob x).1, .int .i64 (carO ob x).2]) := by
  intro w' hb
  have h' := h.below hb
  unfold carO
  by_cases hx : x = (1, 0)
  · rw [if_pos hx]
    exact car_null hp x hx w' (valid_any h')
  · rw [if_neg hx]
    rcases get_cons_any h' x with ⟨⟨g, ho, _, hr⟩, hk⟩ | ⟨hr, hk⟩
    · match hf : findO ob x with
      | none => rw [hf] at hk; simp at hk
      | some (.cons a d) =>
        rw [hf] at ho
        obtain ⟨g', hv, _, hblk⟩ := ho
        simp at hv
        subst hv
        exact car_yes hp g a d x hx w' (valid_any h') hr hblk
      | some (.text ..) => rw [hf] at hk; simp [Ob.kind] at hk
      | some (.vec ..) => rw [hf] at hk; simp [Ob.kind] at hk
      | some (.code ..) => rw [hf] at hk; simp [Ob.kind] at hk
    · match hf : findO ob x with
      | none => exact car_no hp x hx w' (valid_any h') hr
      | some (.cons a d) => rw [hf] at hk; simp [Ob.kind] at hk
      | some (.text ..) => exact car_no hp x hx w' (valid_any h') hr
      | some (.vec ..) => exact car_no hp x hx w' (valid_any h') hr
      | some (.code ..) => exact car_no hp x hx w' (valid_any h') hr
/-- What Cdr returns. -/
def cdrO (ob : Obs) (x : Wd) : Wd × Int := if x = (1, 0) then ((1, 0), 0) else match findO ob x with | some (.cons _ d) => (d, 0) | _ => ((0, 0), 6)
set_option maxHeartbeats 1000000 in
theorem cdr_null (hp : Nat) (x : Wd) (hx : x = (1, 0)) (w : World) (V : ∀ w', Below w.heap.size w w' → Calls Tryz.prog 69 #[ptr hp] w' fun e w'' => e = .returned (.bool true) ∧ w' = w'') :
    Calls Tryz.prog 63 #[ptr hp, wd x] w fun e w' => e = .returned (.tuple #[wd (1, 0), .int .i64 0]) ∧ Below w.heap.size w w' := by
  subst hx
  have HV := Lib.hid V
  have HN := Lib.hid isNil_yes
  have hb := ((Below.refl w.heap.size w).alloc (Nat.le_refl _) (.cells #[.int .i64 1, .int .i64 0] 28)).alloc (by simp) (.cells #[.int .i64 0, .int .i64 0] 28)
  clear V
  go_enter Tryz.func63, Tryz.ntmps63
  go_wp2_with (fail)
  refine (HV.out _ hb).mono ?_
  rintro e w1 ⟨rfl, rfl⟩
  go_wp2_with (fail)
  refine (HN.out _).mono ?_
  rintro e w2 ⟨rfl, hb2⟩
  obtain ⟨n1, n2⟩ := two_new hb2
  obtain ⟨b0, b1, -, -⟩ := n1.two
  obtain ⟨c0, c1, d0, d1⟩ := n2.two
  clear n1 n2
  go_wp2_with (fail)
  refine bodyPost_ret (v := .tuple #[wd (1, 0), .int .i64 0]) (by simp [results, Tryz.results63, go_sem, c0, c1]) rfl ⟨rfl, ?_⟩
  exact ((hb.trans (hb2.mono (by simp; omega))).setCell (by simp) _).setCell (by simp) _
set_option maxHeartbeats 1000000 in
theorem cdr_no (hp : Nat) (x : Wd) (hx : x ≠ (1, 0)) (w : World) (V : ∀ w', Below w.heap.size w w' → Calls Tryz.prog 69 #[ptr hp] w' fun e w'' => e = .returned (.bool true) ∧ w' = w'')
    (G : Reads w 71 #[ptr hp, wd x] (.tuple #[.pointer none, .int .i64 6])) :
    Calls Tryz.prog 63 #[ptr hp, wd x] w fun e w' => e = .returned (.tuple #[wd (0, 0), .int .i64 6]) ∧ Below w.heap.size w w' := by
  have HV := Lib.hid V
  have HN := Lib.hid (isNil_other x hx)
  have HG := Lib.hid G
  have hb := ((Below.refl w.heap.size w).alloc (Nat.le_refl _) (.cells #[.int .i64 x.1, .int .i64 x.2] 28)).alloc (by simp) (.cells #[.int .i64 0, .int .i64 0] 28)
  clear V G hx
  go_enter Tryz.func63, Tryz.ntmps63
  go_wp2_with (fail)
  refine (HV.out _ hb).mono ?_
  rintro e w1 ⟨rfl, rfl⟩
  go_wp2_with (fail)
  refine (HN.out _).mono ?_
  rintro e w2 ⟨rfl, hb2⟩
  obtain ⟨n1, n2⟩ := two_new hb2
  obtain ⟨b0, b1, -, -⟩ := n1.two
  have hbb := hb.trans (hb2.mono (by simp; omega))
  clear hb
  go_wp2_with (fail)
  refine (HG.out _ hbb).mono ?_
  rintro e w3 ⟨rfl, hb3⟩
  obtain ⟨c0, c1, d0, d1⟩ := (n2.below hb3).two
  have hs3 := hb3.size
  have hs2 := n2.lt
  clear n1 n2 b0 b1
  go_wp2_with (fail)
  refine bodyPost_ret (v := .tuple #[wd (0, 0), .int .i64 6]) (by simp [results, Tryz.results63, go_sem, c0, c1]) rfl ⟨rfl, ?_⟩
  exact ((hbb.trans (hb3.mono hbb.size)).setCell (by simp) _).setCell (by simp) _
set_option maxHeartbeats 1000000 in
theorem cdr_yes (hp gc : Nat) (a d : Wd) (x : Wd) (hx : x ≠ (1, 0)) (w : World) (V : ∀ w', Below w.heap.size w w' → Calls Tryz.prog 69 #[ptr hp] w' fun e w'' => e = .returned (.bool true) ∧ w' = w'')
    (G : Reads w 71 #[ptr hp, wd x] (.tuple #[ptr gc, .int .i64 0])) (B : Blk w gc #[.int .i64 a.1, .int .i64 a.2, .int .i64 d.1, .int .i64 d.2] 97) :
    Calls Tryz.prog 63 #[ptr hp, wd x] w fun e w' => e = .returned (.tuple #[wd d, .int .i64 0]) ∧ Below w.heap.size w w' := by
  have HV := Lib.hid V
  have HN := Lib.hid (isNil_other x hx)
  have HG := Lib.hid G
  have hb := ((Below.refl w.heap.size w).alloc (Nat.le_refl _) (.cells #[.int .i64 x.1, .int .i64 x.2] 28)).alloc (by simp) (.cells #[.int .i64 0, .int .i64 0] 28)
  clear V G hx
  go_enter Tryz.func63, Tryz.ntmps63
  go_wp2_with (fail)
  refine (HV.out _ hb).mono ?_
  rintro e w1 ⟨rfl, rfl⟩
  go_wp2_with (fail)
  refine (HN.out _).mono ?_
  rintro e w2 ⟨rfl, hb2⟩
  obtain ⟨n1, n2⟩ := two_new hb2
  obtain ⟨b0, b1, -, -⟩ := n1.two
  have hbb := hb.trans (hb2.mono (by simp; omega))
  clear hb
  go_wp2_with (fail)
  refine (HG.out _ hbb).mono ?_
  rintro e w3 ⟨rfl, hb3⟩
  obtain ⟨c0, c1, d0, d1⟩ := (n2.below hb3).two
  have hbc := hbb.trans (hb3.mono hbb.size)
  obtain ⟨o0, o1, o2, o3⟩ := (B.below hbc).four
  clear n1 n2 b0 b1 hbb hb3
  go_wp2_with (fail)
  refine bodyPost_ret (v := .tuple #[wd d, .int .i64 0]) (by simp [results, Tryz.results63, go_sem, c0, c1]) rfl ⟨rfl, ?_⟩
  exact (hbc.setCell (by simp) _).setCell (by simp) _
theorem cdr_any {w : World} {base hp lim : Nat} {ob : Obs} {lab : Nat → Option Lab} {P : Parts} (h : HeapIs w base hp lim ob lab P) (x : Wd) :
    Reads w 63 #[ptr hp, wd x] (.tuple #[wd (cdrO ob x).1, .int .i64 (cdrO ob x).2]) := by
  intro w' hb
  have h' := h.below hb
  unfold cdrO
  by_cases hx : x = (1, 0)
  · rw [if_pos hx]
    exact cdr_null hp x hx w' (valid_any h')
  · rw [if_neg hx]
    rcases get_cons_any h' x with ⟨⟨g, ho, _, hr⟩, hk⟩ | ⟨hr, hk⟩
    · match hf : findO ob x with
      | none => rw [hf] at hk; simp at hk
      | some (.cons a d) =>
        rw [hf] at ho
        obtain ⟨g', hv, _, hblk⟩ := ho
        simp at hv
        subst hv
        exact cdr_yes hp g a d x hx w' (valid_any h') hr hblk
      | some (.text ..) => rw [hf] at hk; simp [Ob.kind] at hk
      | some (.vec ..) => rw [hf] at hk; simp [Ob.kind] at hk
      | some (.code ..) => rw [hf] at hk; simp [Ob.kind] at hk
    · match hf : findO ob x with
      | none => exact cdr_no hp x hx w' (valid_any h') hr
      | some (.cons a d) => rw [hf] at hk; simp [Ob.kind] at hk
      | some (.text ..) => exact cdr_no hp x hx w' (valid_any h') hr
      | some (.vec ..) => exact cdr_no hp x hx w' (valid_any h') hr
      | some (.code ..) => exact cdr_no hp x hx w' (valid_any h') hr
end Go.Proofs.YtlibdhnlmekmhaaGreatDoor.Car
end
