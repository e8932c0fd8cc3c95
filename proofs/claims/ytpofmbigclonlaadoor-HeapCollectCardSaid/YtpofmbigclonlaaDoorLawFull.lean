/- HeapFull: the walk of the law. -/
import Derived.Test.YtpofmbigclonlaaDoorFullMath
import Derived.LoopTactic
import Derived.Deep.RegionLaw
import Derived.Outline
namespace Go
/-- append onto a row of the call's own, as one step of a region that draws. -/
theorem step_append_row {P : Program} {ops : Array Oper} {o : Oper} {a : Act} {w : World} {K : Act → World → Prop} {Q : Exit → Act → World → Prop} {E : Prop}
    (hg : o.guard = none) (s x : Operand) (t : TypeId) (hop : o.op = Op.call { callee := Callee.builtin Builtin.append, args := #[s, x], argTypes := #[t, t] })
    (base : Nat) (e : TypeId) (i : TypeInfo) (z : Value) (size bytes : Nat) (ht : P.underlying t = some (.slice e)) (hi : P.info? e = some i) (hz : i.zero = some z)
    (hsize : i.size = size) (hby : i.bytes = bytes) (hzs : z.cells.size = size) (hsz : 0 < size)
    (v : Value) (n : Nat) (xs : List Value) (hs : a.eval s = v) (hown : w.ownsRow base e size v n xs)
    (ad : Addr) (m c : Nat) (news : List Value) (hx : a.eval x = .slice (some ad) m c) (hl : news.length = m * size) (hnews : ∀ j u, news[j]? = some u → w.cell? (ad.add j) = some u) (h1 : ∀ u ∈ news, u.oneCell' = true)
    (h63 : n + m ≤ maxLen) (hbytes : (n + m) * bytes ≤ 140737488355328) (hbase : base ≤ w.heap.size)
    (hK : ∀ A' c' w', Appended w w' base e size v (.slice A' (n + m) c') (n + m) (xs ++ news) → K (a.put o.dst (.slice A' (n + m) c')) w') :
    if Region.wanted o (yielded ops a.tmps) = true then Oper.wp P o a w K Q else E := by
  have hw : Region.wanted o (yielded ops a.tmps) = true := by simp [Region.wanted, hg]
  rw [if_pos hw]
  obtain ⟨v', w', hrun, h2, h3, h4⟩ := run_append_place (P := P) w base t o.type e i z size bytes ht hi hz hsize hby hzs hsz v n xs hown ad m c news hl hnews h1 h63 hbytes hbase
  unfold Oper.wp
  simp only [execOp, hop, resolve, invoke, builtin, Sem.run_bind, Sem.run_pure, Result.andThen_ok, List.map_toArray, List.map_cons, List.map_nil, hs, hx, hrun]
  obtain ⟨A', c', rfl⟩ := slice_of' h2
  exact hK A' c' w' ⟨h2, h3, h4⟩
end Go
namespace Go.Proofs.YtpofmbigclonlaaDoor.LawFull
open Go.RowKit
open Go.Proofs.YtpofmbigclonlaaDoor.Own Go.Proofs.YtpofmbigclonlaaDoor.Hp Go.Proofs.YtpofmbigclonlaaDoor.Rep Go.Proofs.YtpofmbigclonlaaDoor.Get Go.Proofs.YtpofmbigclonlaaDoor.Quick Go.Proofs.YtpofmbigclonlaaDoor.Add Go.Proofs.YtpofmbigclonlaaDoor.Make Go.Proofs.YtpofmbigclonlaaDoor.Kit Go.Proofs.YtpofmbigclonlaaDoor.Strs Go.Proofs.YtpofmbigclonlaaDoor.Clone Go.Proofs.YtpofmbigclonlaaDoor.Lives Go.Proofs.YtpofmbigclonlaaDoor.Full Go.Proofs.YtpofmbigclonlaaDoor.Nums Go.Proofs.YtpofmbigclonlaaDoor.Collect Go.Proofs.YtpofmbigclonlaaDoor.Car

/-- What holds between the rounds of the filling. -/
structure Fill (w wr : World) (hp N : Nat) (ob : Obs) (i : Nat) (v : Value) (lab : Nat → Option Lab) (P : Parts) : Prop where
  below : Below w.heap.size w wr
  heap : HeapIs wr w.heap.size hp N ob lab P
  row : wr.ownsRow w.heap.size 28 2 v i (wcells (L i))
  apart : ∀ b, v.ownBlock = some b → lab b = none
theorem Fill.later {w wr w' : World} {hp N i : Nat} {ob : Obs} {v : Value} {lab : Nat → Option Lab} {P : Parts} (h : Fill w wr hp N ob i v lab P) (hb : Below wr.heap.size wr w') : Fill w w' hp N ob i v lab P :=
  ⟨h.below.trans (hb.mono h.below.size), h.heap.below hb, owns_below h.row hb, h.apart⟩

theorem wcells_append (a b : List Wd) : wcells (a ++ b) = wcells a ++ wcells b := by
  induction a with
  | nil => rfl
  | cons x a ih => simp [wcells, ih]
/-- Two cells of a word that was built. -/
theorem two_cell (w : World) (x y : Value) (t : TypeId) : ∀ j u, [x, y][j]? = some u → (w.alloc (.cells #[x, y] t)).cell? ((⟨w.heap.size, 0, none⟩ : Addr).add j) = some u := by
  intro j u hj
  have h := Blk.new w #[x, y] t
  rcases j with _ | _ | j
  · simp at hj; subst hj; exact h.cell 0 _ rfl
  · simp at hj; subst hj; exact h.cell 1 _ rfl
  · simp at hj
theorem two_one (a b : Int) : ∀ u ∈ [Value.int .i64 a, .int .i64 b], u.oneCell' = true := by
  intro u hu
  simp at hu
  rcases hu with rfl | rfl <;> rfl
/-- The fill behind an append of a word. -/
theorem Fill.append {w W w1 : World} {hp N i c' : Nat} {v : Value} {A' : Option Addr} {lab : Nat → Option Lab} {P : Parts} {o : Obj} (hb : Below w.heap.size w W) (hh : HeapIs W w.heap.size hp N (obC (i + 1)) lab P) (ha : ∀ b, v.ownBlock = some b → lab b = none)
    (h : Appended (W.alloc o) w1 w.heap.size 28 2 v (.slice A' (i + 1) c') (i + 1) (wcells (L i) ++ [.int .i64 2, .int .i64 (i : Int)])) (hv : ∀ b, v.ownBlock = some b → w.heap.size ≤ b) : Fill w w1 hp N (obC (i + 1)) (i + 1) (.slice A' (i + 1) c') lab P := by
  have hk := keeps_push (w := W) (o := o) h.grown rfl rfl rfl rfl
  refine ⟨hb.trans (hk.below hb.size fun b e => hv b e), hh.keeps hk fun b e => ha b e, ?_, fun b e => ?_⟩
  · have := h.row
    rw [L_succ, wcells_append]
    exact this
  · rcases h.place b e with e | e
    · exact ha b e
    · exact lab_none hh (by subst e; simp)

theorem wcells_take (l : List Wd) (n : Nat) : wcells (l.take n) = (wcells l).take (n * 2) := by
  induction l generalizing n with
  | nil => simp [wcells]
  | cons x l ih =>
    cases n with
    | zero => simp [wcells]
    | succ n =>
      rw [show (n + 1) * 2 = n * 2 + 1 + 1 from by omega]
      simp [wcells, ih]
theorem wcells_drop (l : List Wd) (n : Nat) : wcells (l.drop n) = (wcells l).drop (n * 2) := by
  induction l generalizing n with
  | nil => simp [wcells]
  | cons x l ih =>
    cases n with
    | zero => simp [wcells]
    | succ n =>
      rw [show (n + 1) * 2 = n * 2 + 1 + 1 from by omega]
      simp [wcells, ih]
theorem wcells_at' (k j : Nat) (h : j < k) : (wcells (L k))[j * 2]? = some (.int .i64 2) ∧ (wcells (L k))[j * 2 + 1]? = some (.int .i64 (j : Int)) := by
  have h1 := Visit.wcells_at (L k) j (by rw [L_length]; exact h)
  have h2 : (L k)[j]'(by rw [L_length]; exact h) = (2, (j : Int)) := by
    have := L_at k j h
    rw [List.getElem?_eq_getElem (by rw [L_length]; exact h)] at this
    exact Option.some.inj this
  rw [h2] at h1
  exact h1
/-- The front part, as Own takes it. -/
theorem own_front {W0 : World} {base g n cap k : Nat} {l : List Wd} (h : W0.ownsRow base 28 2 (.slice (some ⟨g, 0, none⟩) n cap) n (wcells l)) (hk : k ≤ n) (hl : l.length = n) (hn : n ≤ 65536) :
    ∀ W, Below W0.heap.size W0 W → Calls Tryd.prog 31 #[.slice (some ⟨g, 0, none⟩) k cap] W fun e W' => (∃ A c, e = .returned (.slice A k c) ∧ W'.ownsRow W.heap.size 28 2 (.slice A k c) k (wcells (l.take k))) ∧ Below W.heap.size W W' := by
  intro W hb
  have hr := (Row.of_owns h).below hb
  have hcap : n ≤ cap := by
    rcases h.2 with ⟨h, _⟩ | ⟨g', cap, cur, hh, _, _, h1, h2, _⟩
    · cases h
    · cases hh; exact h1
  have hs : SlR W (.slice (some ⟨g, 0, none⟩) k cap) k (wcells (l.take k)) := ⟨_, _, rfl, by omega, fun _ => ⟨g, 0, rfl, fun j u hj => by
    rw [Nat.zero_add]
    refine hr.cell j u ?_
    rw [wcells_take, List.getElem?_take] at hj
    split at hj
    · exact hj
    · cases hj⟩⟩
  refine (ownW_any _ _ _ W hs (by rw [wcells_length, List.length_take]; omega) (wcells_one _) (by omega)).mono ?_
  rintro e W' ⟨⟨v, he, ho⟩, hb'⟩
  obtain ⟨A, c, rfl⟩ := slice_of' ho
  exact ⟨⟨A, c, he, ho⟩, hb'⟩
/-- The cells behind the one that is left out. -/
theorem back_cells {W0 W : World} {base g n cap k : Nat} {l : List Wd} (h : W0.ownsRow base 28 2 (.slice (some ⟨g, 0, none⟩) n cap) n (wcells l)) (hb : Below W0.heap.size W0 W) :
    ∀ j u, (wcells (l.drop k))[j]? = some u → W.cell? ((⟨g, k * 2, none⟩ : Addr).add j) = some u := by
  intro j u hj
  rw [wcells_drop, List.getElem?_drop] at hj
  have := ((Row.of_owns h).below hb).cell _ u hj
  have e : ((⟨g, k * 2, none⟩ : Addr).add j) = ⟨g, k * 2 + j, none⟩ := by unfold Addr.add; split <;> simp_all
  rw [e]
  exact this

theorem Fill.after {w wr w' : World} {hp N i : Nat} {ob ob' : Obs} {v : Value} {lab lab' : Nat → Option Lab} {P P' : Parts} (h : Fill w wr hp N ob i v lab P) (hI : HeapIs w' w.heap.size hp N ob' lab' P') (hA : After wr w' lab lab') : Fill w w' hp N ob' i v lab' P' :=
  ⟨h.below.trans (after_below h.heap h.below.size hA), hI, owns_keeps h.row hA.keeps (fun b e => by unfold Of; rw [h.apart b e]; simp), fun b e => after_lab hA (h.row.lt b e).2 (h.apart b e)⟩

set_option maxRecDepth 100000 in
set_option maxHeartbeats 3200000 in
theorem walk (limit which : Int) (w : World) (hT : Tabs w) : Calls Tryd.prog 5 #[.int .i64 limit, .int .i64 which] w fun e w' => e = .returned (.bool true) ∧ Below w.heap.size w w' := by
  obtain ⟨N0, hN0⟩ := Int.eq_ofNat_of_zero_le (pick_range limit 60 (by omega)).1
  have hN1 := (pick_range limit 60 (by omega)).2
  have hP1 := fun w => pick_any limit 60 w (by omega) (by omega)
  rw [hN0] at hN1
  simp only [hN0] at hP1
  obtain ⟨N, hN⟩ : ∃ N, N = 1 + N0 := ⟨_, rfl⟩
  have hNI : (1 : Int) + (N0 : Int) = (N : Int) := by omega
  have hNb : N ≤ 60 := by omega
  have hN0b : N0 ≤ 59 := by omega
  have hNp : 1 ≤ N := by omega
  obtain ⟨i0, hi, hz0, hz1, hz2⟩ := info_parts word_info
  have HI := Lib.hid hi
  have HZ0 := Lib.hid hz0
  have HZ1 := Lib.hid hz1
  have HZ2 := Lib.hid hz2
  clear hi hz0 hz1 hz2
  have HL := Lib.hid (lives_any w hT)
  have HT := Lib.hid hT
  have HP1 := Lib.hid hP1
  have HNI := Lib.hid hNI
  clear hT hP1 hN0 hN1 hN hNI
  go_enter Tryd.func5, Tryd.ntmps5
  go_wp2_with fail
  refine HL.out.mono ?_
  rintro e w1 ⟨rfl, hb1⟩
  go_wp2_with fail
  refine (HP1.out _).mono ?_
  rintro e w1' ⟨rfl, rfl⟩
  have HNew := Lib.hid (new_any N hNp (by omega) w1)
  have HB1 := Lib.hid hb1
  clear hb1
  go_wp2_with fail
  rw [HNI.out]
  refine HNew.out.mono ?_
  rintro e w2 ⟨rfl, hb2, hI2⟩
  have hstart : Fill w1 w2 w1.heap.size N (obC 0) 0 (.slice none 0 0) (fun b => if b = w1.heap.size then some .hdr else none) ⟨0, .slice none 0 0, .slice none 0 0, [], 0, fun _ => 0⟩ :=
    ⟨hb2, by rw [obC_zero]; exact hI2, ⟨by simp [L, wcells], .inl ⟨rfl, rfl⟩⟩, fun b e => by cases e⟩
  have HS := Lib.hid hstart
  clear hstart hb2 hI2
  go_wp2_with fail
  obtain ⟨hp, hhp⟩ : ∃ hp, w1.heap.size = hp := ⟨_, rfl⟩
  rw [hhp] at HS ⊢
  have HH := Lib.hid hhp
  clear hhp
  go_loopw [8, 9] (fun v i wr => ∃ (k : Nat) (lab : Nat → Option Lab) (P : Parts), i = .int .i64 (k : Int) ∧ k ≤ N ∧ Hid (Fill w1 wr hp N (obC k) k v lab P)) (fun _ i _ => N - (intOf i).toNat)
  case atStart => exact ⟨0, _, _, rfl, Nat.zero_le _, HS⟩
  case round =>
    obtain ⟨k, lab, P, rfl, hk, HFi⟩ := hrel
    by_cases hlt : k < N
    · have hltz : (k : Int) < N := by omega
      go_wp2_with fail
      refine (int_any (k : Int) _).mono ?_
      rintro e w3 ⟨rfl, hb3⟩
      have HF3 := Lib.hid (HFi.out.later hb3)
      clear hb3 HFi
      go_wp2_with fail
      refine (nil_any _).mono ?_
      rintro e w4 ⟨rfl, hb4⟩
      have hf4 := HF3.out.later hb4
      have hc := cons_any hf4.heap hf4.below.size (0, (k : Int)) (1, 0)
      rw [obC_add k N hlt] at hc
      have HC := Lib.hid hc
      have HF4 := Lib.hid hf4
      clear hb4 hf4 hc HF3
      go_wp2_with fail
      refine HC.out.mono ?_
      rintro e w5 ⟨rfl, lab5, P5, hI5, hA5⟩
      have hb5 := HF4.out.below.trans (after_below HF4.out.heap HF4.out.below.size hA5)
      have hrow5 := owns_keeps HF4.out.row hA5.keeps (fun b e => by unfold Of; rw [HF4.out.apart b e]; simp)
      have hap5 : ∀ b, u8.ownBlock = some b → lab5 b = none := fun b e => after_lab hA5 (HF4.out.row.lt b e).2 (HF4.out.apart b e)
      have hblk := Blk.new w5 #[.int .i64 2, .int .i64 (k : Int)] 28
      have q1 := fun x : Grown (w5.alloc (.cells #[.int .i64 2, .int .i64 (k : Int)] 28)) => (hblk.below x.below).cell 0 _ rfl
      have q2 := fun x : Grown (w5.alloc (.cells #[.int .i64 2, .int .i64 (k : Int)] 28)) => (hblk.below x.below).cell 1 _ rfl
      have hb6 := hb5.alloc hb5.size (.cells #[.int .i64 2, .int .i64 (k : Int)] 28)
      have HX := Lib.hid (And.intro hb6 (And.intro (hI5.below ((Below.refl _ _).alloc (Nat.le_refl _) (.cells #[.int .i64 2, .int .i64 (k : Int)] 28))) (And.intro (owns_below hrow5 ((Below.refl _ _).alloc (Nat.le_refl _) (.cells #[.int .i64 2, .int .i64 (k : Int)] 28))) hap5)))
      clear hb5 hrow5 hap5 hblk hb6 hI5 hA5 HF4 HC
      go_wp2_with fail
      refine wp_region_grown (w5.alloc (.cells #[.int .i64 2, .int .i64 (k : Int)] 28)) (Below.refl _ _) (by kernel_rfl) (by kernel_rfl) ?_
      repeat (go_big_quiet_step ((go_at_call 16; exact grown_call (fun w _ => word_any _ _ w))))
      refine wpQuiet_nil ?_
      rintro _ ⟨x, rfl⟩
      have c1 := q1 x
      have c2 := q2 x
      have HX2 := Lib.hid (And.intro (HX.out.1.trans (x.below.mono HX.out.1.size)) (And.intro (HX.out.2.1.below x.below) (And.intro (owns_below HX.out.2.2.1 x.below) (And.intro HX.out.2.2.2 (show ∀ b, u8.ownBlock = some b → w1.heap.size ≤ b from fun b e => (HX.out.2.2.1.lt b e).1)))))
      have hws : w1.heap.size ≤ x.w.heap.size := HX2.out.1.size
      clear HX
      go_wp2_with (at_builtin; refine wpList_append_place rfl (.tmp 58) (.tmp 60) 36 rfl w1.heap.size 28 i0 (.agg #[.int .i64 0, .int .i64 0]) 2 16 Tryd.underlying36 HI.out HZ0.out HZ1.out HZ2.out rfl (by decide) u8 k (wcells (L k)) rfl (HX2.out.2.2.1.alloc _) ⟨_, 0, none⟩ 1 1 [.int .i64 2, .int .i64 (k : Int)] rfl rfl (two_cell x.w _ _ _) (two_one _ _) (by as_aux_lemma => (unfold maxLen; omega)) (by as_aux_lemma => omega) (by as_aux_lemma => (simp; omega)) ?_)
      intro A' c' w9 hap
      have HF9 := Lib.hid (Fill.append HX2.out.1 HX2.out.2.1 HX2.out.2.2.2.1 hap HX2.out.2.2.2.2)
      clear hap HX2
      go_wp2_with fail
      go_roundw
      case rel => exact ⟨k + 1, _, _, by go_num, by omega, HF9⟩
      case measure => simp [intOf]; omega
    · obtain rfl : k = N := by omega
      have hltz : ¬ (k : Int) < k := by omega
      obtain ⟨kk, hkk⟩ := Int.eq_ofNat_of_zero_le (pick_range which k (by omega)).1
      have hkk2 := (pick_range which k (by omega)).2
      have hP2 := fun w => pick_any which k w (by omega) (by omega)
      rw [hkk] at hkk2
      simp only [hkk] at hP2
      have HP2 := Lib.hid hP2
      clear hkk hP2
      go_wp2_with fail
      refine (nil_any _).mono ?_
      rintro e w3 ⟨rfl, hb3⟩
      have HF3 := Lib.hid (HFi.out.later hb3)
      clear hb3 HFi
      go_wp2_with fail
      refine (nil_any _).mono ?_
      rintro e w4 ⟨rfl, hb4⟩
      have hf4 := HF3.out.later hb4
      have hc := cons_any hf4.heap hf4.below.size (1, 0) (1, 0)
      rw [obC_full] at hc
      have HC := Lib.hid hc
      have HF4 := Lib.hid hf4
      clear hb4 hf4 hc HF3
      go_wp2_with fail
      refine HC.out.mono ?_
      rintro e w5 ⟨rfl, lab5, P5, hI5, hA5⟩
      have hf5 := (HF4.out.after hI5 hA5).later ((Below.refl _ _).alloc (Nat.le_refl _) (.cells #[.int .i64 0, .int .i64 0] 28))
      have ht := text_any hf5.heap hf5.below.size ⟨#[]⟩ (by decide) ((HT.out.below HB1.out).below hf5.below)
      rw [obC_text] at ht
      have HTx := Lib.hid ht
      have HF5 := Lib.hid hf5
      clear hI5 hA5 hf5 ht HF4 HC
      go_wp2_with fail
      refine HTx.out.mono ?_
      rintro e w6 ⟨rfl, lab6, P6, hI6, hA6⟩
      have hf6 := (HF5.out.after hI6 hA6).later ((Below.refl _ _).alloc (Nat.le_refl _) (.cells #[.int .i64 0, .int .i64 0] 28))
      have hcd := code_any hf6.heap hf6.below.size 0 0 0 (.slice none 0 0) (.slice none 0 0) [] [] (nil_reads _ _ _) (nil_reads _ _ _) (by simp) (by simp)
      rw [obC_code] at hcd
      have HCd := Lib.hid hcd
      have HF6 := Lib.hid hf6
      clear hI6 hA6 hf6 hcd HF5 HTx
      go_wp2_with fail
      refine HCd.out.mono ?_
      rintro e w7 ⟨rfl, lab7, P7, hI7, hA7⟩
      have HF7 := Lib.hid ((HF6.out.after hI7 hA7).later ((Below.refl _ _).alloc (Nat.le_refl _) (.cells #[.int .i64 0, .int .i64 0] 28)))
      clear hI7 hA7 HF6 HCd
      obtain ⟨g, cap, hu8⟩ : ∃ g cap, u8 = .slice (some ⟨g, 0, none⟩) k cap := by
        rcases HF7.out.row.2 with ⟨_, h0⟩ | ⟨g, cap, cur, hv, _⟩
        · omega
        · exact ⟨g, cap, hv⟩
      subst hu8
      have hcap : k ≤ cap ∧ cap ≤ 9223372036854775807 := by
        rcases HF7.out.row.2 with ⟨h, _⟩ | ⟨g', cap, cur, hh, _, _, h1, h2, _⟩
        · cases h
        · cases hh; exact ⟨h1, by unfold maxLen at h2; omega⟩
      obtain ⟨hcap1, hcap2⟩ := hcap
      go_wp2_with fail
      refine (HP2.out _).mono ?_
      rintro e w8 ⟨rfl, rfl⟩
      have HOwn := Lib.hid (own_front HF7.out.row (k := kk) (by omega) (L_length k) (by omega))
      obtain ⟨ad, had, hback⟩ : ∃ ad : Addr, (if cap = kk + 1 then some (⟨g, 0, none⟩ : Addr) else some ⟨g, (kk + 1) * 2, none⟩) = some ad ∧ (∀ W, Below (w7.alloc (.cells #[.int .i64 0, .int .i64 0] 28)).heap.size (w7.alloc (.cells #[.int .i64 0, .int .i64 0] 28)) W → ∀ j u, (wcells ((L k).drop (kk + 1)))[j]? = some u → W.cell? (ad.add j) = some u) := by
        by_cases hce : cap = kk + 1
        · refine ⟨_, if_pos hce, fun W _ j u hj => ?_⟩
          rw [List.drop_eq_nil_of_le (by rw [L_length]; omega)] at hj
          simp [wcells] at hj
        · exact ⟨_, if_neg hce, fun W hb => back_cells (W := W) (k := kk + 1) HF7.out.row hb⟩
      have HBack := Lib.hid hback
      have hkz : (kk : Int) + 1 ≤ k := by omega
      have hkn : kk + 1 ≤ k := by omega
      have hkc : kk ≤ cap := by omega
      have hkc2 : kk + 1 ≤ cap := by omega
      have hw1 : IntKind.i64.wrap ((kk : Int) + 1) = (kk : Int) + 1 := IntWalk.i64_in _ (by omega)
      have hw2 : (0 : Int) ≤ (kk : Int) + 1 := by omega
      have hw3 : ((kk : Int) + 1).toNat = kk + 1 := by omega
      have HLl := Lib.hid (show (wcells ((L k).drop (kk + 1))).length = (k - (kk + 1)) * 2 by rw [wcells_length, List.length_drop, L_length])
      have hbd1 : kk + (k - (kk + 1)) ≤ maxLen := by unfold maxLen; omega
      have hbd2 : (kk + (k - (kk + 1))) * 16 ≤ 140737488355328 := by omega
      clear hback
      go_wp2_with fail
      go_region_law ((first
          | (have tok9 := HO9; clear tok9; refine step_append_row rfl (.tmp 86) (.tmp 90) 36 rfl w1.heap.size 28 i0 (.agg #[.int .i64 0, .int .i64 0]) 2 16 Tryd.underlying36 HI.out HZ0.out HZ1.out HZ2.out rfl (by decide) (.slice A9 kk c9) kk (wcells ((L k).take kk)) rfl (by exact HO9.out) ad (k - (kk + 1)) (cap - (kk + 1)) (wcells ((L k).drop (kk + 1))) rfl HLl.out (HBack.out _ (by exact HB9.out)) (wcells_one _) hbd1 hbd2 (by exact HS9.out) ?_; intro A10 c10 w10 hap10; have HA10 := Lib.hid hap10; clear hap10)
          | (go_simp; go_at_call 31; refine (HOwn.out _ (by exact (Below.refl _ _).drew)).mono ?_; rintro e w9 ⟨⟨A9, c9, rfl, ho9⟩, hb9⟩; have HO9 := Lib.hid (owns_base' ho9 (base' := w1.heap.size) (by exact HF7.out.below.size)); have HB9 := Lib.hid ((Below.refl _ _).drew.trans hb9); have HS9 := Lib.hid (Nat.le_trans HF7.out.below.size HB9.out.size); have HOb9 := Lib.hid (show ∀ b, (Value.slice A9 kk c9).ownBlock = some b → (w7.alloc (.cells #[.int .i64 0, .int .i64 0] 28)).heap.size ≤ b from fun b hb => (ho9.lt b hb).1); clear ho9 hb9)))
      clear hw1 hw2 hw3 had hbd1 hbd2
      have hb10 := HB9.out.grown HA10.out.grown HB9.out.size HOb9.out
      have hf10 := HF7.out.later hb10
      have hroots : SlR w10 (.slice A10 (kk + (k - (kk + 1))) c10) (roots k kk).length (wcells (roots k kk)) := by
        have h1 := SlR.of_own HA10.out.row
        rw [← wcells_append] at h1
        rw [show (roots k kk).length = kk + (k - (kk + 1)) by unfold roots; rw [List.length_append, List.length_take, List.length_drop, L_length]; omega]
        exact h1
      have hcl := collect_any hf10.heap hf10.below.size _ (roots k kk) hroots (by unfold roots; rw [List.length_append, List.length_take, List.length_drop, L_length]; omega)
      rw [obC_gone k kk (by omega), obC_collected k kk (by omega)] at hcl
      have HCl := Lib.hid hcl
      have HF10 := Lib.hid hf10
      clear hb10 hf10 hroots hcl HB9 HA10 HOb9 HS9 HO9 HF7 HOwn HBack HLl
      go_wp2_with fail
      refine HCl.out.mono ?_
      rintro e w11 ⟨rfl, lab11, P11, hI11, hA11⟩
      have hf11 := HF10.out.after hI11 hA11
      have hv := vec_any hf11.heap hf11.below.size (.slice none 0 0) [] (nil_reads _ _ _) (by simp)
      rw [obE_vec k kk (by omega)] at hv
      have HV := Lib.hid hv
      have HF11 := Lib.hid hf11
      clear hI11 hA11 hf11 hv HF10 HCl
      go_wp2_with fail
      refine HV.out.mono ?_
      rintro e w12 ⟨rfl, lab12, P12, hI12, hA12⟩
      have hf12 := HF11.out.after hI12 hA12
      have hr12 := Blk.new w12 #[.int .i64 4, .int .i64 (kk : Int)] 28
      have HF12 := Lib.hid (hf12.later ((Below.refl _ _).alloc (Nat.le_refl _) (.cells #[.int .i64 4, .int .i64 (kk : Int)] 28)))
      have HR12 := Lib.hid hr12
      obtain ⟨j, hj⟩ := Int.eq_ofNat_of_zero_le (pick_range ((kk : Int) + 1) k (by omega)).1
      have hj2 := (pick_range ((kk : Int) + 1) k (by omega)).2
      have hP3 := fun w => pick_any ((kk : Int) + 1) k w (by omega) (by omega)
      have hjk : k = 1 ∨ j ≠ kk := by
        by_cases h1 : k = 1
        · exact .inl h1
        · right
          intro e
          subst e
          unfold pickZ at hj
          rw [if_neg (by omega), if_neg (by have := Int.tmod_nonneg (k : Int) (show (0 : Int) ≤ (j : Int) + 1 by omega); omega)] at hj
          rw [Int.tmod_eq_emod_of_nonneg (by omega)] at hj
          by_cases hlast : j + 1 = k
          · have : ((j : Int) + 1) % (k : Int) = 0 := by rw [show ((j : Int) + 1) = (k : Int) by omega]; exact Int.emod_self
            omega
          · have : ((j : Int) + 1) % (k : Int) = (j : Int) + 1 := Int.emod_eq_of_lt (by omega) (by omega)
            omega
      rw [hj] at hj2
      simp only [hj] at hP3
      have HP3 := Lib.hid hP3
      clear hI12 hA12 hf12 hr12 HF11 HV hj hP3
      go_wp2_with fail
      refine (HP3.out _).mono ?_
      rintro e w13 ⟨rfl, rfl⟩
      have hrw := Row.of_owns HF12.out.row
      obtain ⟨e1, e2⟩ := wcells_at' k j (by omega)
      have c1 := hrw.cell _ _ e1
      have c2 := hrw.cell _ _ e2
      have hcar := (car_any HF12.out.heap (2, (j : Int))).at
      have hR : k = 1 ∨ carO (obE k kk) (2, (j : Int)) = ((0, (j : Int)), 0) := by
        rcases hjk with h | h
        · exact .inl h
        · exact .inr (obE_car k kk j (by omega) h)
      obtain ⟨R, hRe⟩ : ∃ R, carO (obE k kk) (2, (j : Int)) = R := ⟨_, rfl⟩
      rw [hRe] at hcar hR
      have HCar := Lib.hid hcar
      have HR := Lib.hid hR
      clear hcar hR hRe e1 e2 hrw hjk
      go_wp2_with fail
      refine HCar.out.mono ?_
      rintro e w14 ⟨rfl, hb14⟩
      have hr14 := (HR12.out.below hb14).alloc (.cells #[.int .i64 R.1.1, .int .i64 R.1.2] 28)
      have hs14 := Blk.new w14 #[.int .i64 R.1.1, .int .i64 R.1.2] 28
      have hf14 := (HF12.out.later hb14).later ((Below.refl _ _).alloc (Nat.le_refl _) (.cells #[.int .i64 R.1.1, .int .i64 R.1.2] 28))
      have hmany : ∀ W, Below (w14.alloc (.cells #[.int .i64 R.1.1, .int .i64 R.1.2] 28)).heap.size (w14.alloc (.cells #[.int .i64 R.1.1, .int .i64 R.1.2] 28)) W → Calls Tryd.prog 19 #[ptr hp] W fun e w' => e = .returned (.int .i64 (k : Int)) ∧ Below W.heap.size W w' := fun W hb => by
        have := many_any (hf14.heap.below hb)
        rw [obE_many k kk (by omega)] at this
        exact this.mono fun e w' ⟨he, q, hq⟩ => ⟨he, by subst hq; exact ⟨rfl, rfl, rfl, Nat.le_refl _, fun _ _ => rfl⟩⟩
      have q1 := fun x : Grown (w14.alloc (.cells #[.int .i64 R.1.1, .int .i64 R.1.2] 28)) => (hr14.below x.below).cell 0 _ rfl
      have q2 := fun x : Grown (w14.alloc (.cells #[.int .i64 R.1.1, .int .i64 R.1.2] 28)) => (hr14.below x.below).cell 1 _ rfl
      have hbf := HB1.out.trans (hf14.below.mono HB1.out.size)
      have HBF := Lib.hid hbf
      have HMy := Lib.hid hmany
      by_cases hk1 : k = 1
      · have hk2 : ((k : Int) == 1) = true := beq_iff_eq.2 (by omega)
        have HK1 := Lib.hid hk1
        clear hr14 hs14 hf14 hmany hbf hk1 HR
        go_wp2_with fail
        refine wp_region_grown (w14.alloc (.cells #[.int .i64 R.1.1, .int .i64 R.1.2] 28)) (Below.refl _ _) (by kernel_rfl) (by kernel_rfl) ?_
        repeat (go_big_quiet_step ((first
          | (go_at_call 16; exact grown_call (fun w _ => word_any _ _ w))
          | (go_at_call 19; exact grown_call HMy.out))))
        refine wpQuiet_nil ?_
        rintro _ ⟨x, rfl⟩
        have HX := Lib.hid (HBF.out.trans (x.below.mono HBF.out.size))
        go_wp2_with fail
        go_ret
        exact ⟨rfl, HX.out⟩
      · have hk2 : ((k : Int) == 1) = false := beq_eq_false_iff_ne.2 (by omega)
        have hk3 : (k == 1) = false := beq_eq_false_iff_ne.2 hk1
        have hRe : R = ((0, (j : Int)), 0) := by
          rcases HR.out with h | h
          · exact absurd h hk1
          · exact h
        subst hRe
        have q3 := fun x : Grown (w14.alloc (.cells #[.int .i64 0, .int .i64 (j : Int)] 28)) => (hs14.below x.below).cell 0 _ rfl
        have q4 := fun x : Grown (w14.alloc (.cells #[.int .i64 0, .int .i64 (j : Int)] 28)) => (hs14.below x.below).cell 1 _ rfl
        clear hr14 hs14 hf14 hmany hbf hk1 HR
        go_wp2_with fail
        refine wp_region_grown (w14.alloc (.cells #[.int .i64 0, .int .i64 (j : Int)] 28)) (Below.refl _ _) (by kernel_rfl) (by kernel_rfl) ?_
        repeat (go_big_quiet_step ((first
          | (go_at_call 16; exact grown_call (fun w _ => word_any _ _ w))
          | (go_at_call 24; exact grown_call (fun w _ => (HP3.out w).mono fun e w' ⟨he, hw⟩ => ⟨he, by subst hw; exact Below.refl _ _⟩))
          | (go_at_call 12; exact grown_call (fun w _ => int_any _ w))
          | (go_at_call 19; exact grown_call HMy.out))))
        refine wpQuiet_nil ?_
        rintro _ ⟨x, rfl⟩
        have HX := Lib.hid (HBF.out.trans (x.below.mono HBF.out.size))
        go_wp2_with fail
        go_ret
        exact ⟨rfl, HX.out⟩
end Go.Proofs.YtpofmbigclonlaaDoor.LawFull
