/- The contracts of element, At, SetAt, VecOf, TextOf, CodeOf and Live. -/
import Derived.Test.YtcdlfgggmigcnaaDoorCollect
import Derived.Test.YtcdlfgggmigcnaaDoorCloneC
namespace Go.Proofs.YtcdlfgggmigcnaaDoor.Elem
set_option maxRecDepth 100000
open Go.RowKit
open Go.Proofs.YtcdlfgggmigcnaaDoor.Own Go.Proofs.YtcdlfgggmigcnaaDoor.Hp Go.Proofs.YtcdlfgggmigcnaaDoor.Rep Go.Proofs.YtcdlfgggmigcnaaDoor.Base Go.Proofs.YtcdlfgggmigcnaaDoor.Get Go.Proofs.YtcdlfgggmigcnaaDoor.Clone Go.Proofs.YtcdlfgggmigcnaaDoor.Visit Go.Proofs.YtcdlfgggmigcnaaDoor.CloneC

abbrev wbox (x : Wd) : Obj := .cells #[.int .i64 x.1, .int .i64 x.2] 28
theorem box_below (w : World) (x : Wd) : Below w.heap.size w (w.alloc (wbox x)) := (Below.refl _ _).alloc (Nat.le_refl _) _

set_option maxHeartbeats 1000000 in
theorem elem_no (hp : Nat) (x : Wd) (i : Int) (w : World) (G : Reads w 78 #[ptr hp, wd x] (.tuple #[.pointer none, .int .i64 6])) :
    Calls Tryd.prog 77 #[ptr hp, wd x, .int .i64 i] w fun e w' => e = .returned (.tuple #[.pointer none, .int .i64 6]) ∧ Below w.heap.size w w' := by
  have hb := box_below w x
  have HG := Lib.hid (G.out _ hb)
  clear G
  go_enter Tryd.func77, Tryd.ntmps77
  go_wp2_with fail
  refine HG.out.mono ?_
  rintro e w1 ⟨rfl, hb1⟩
  have HB := Lib.hid (hb.trans (hb1.mono hb.size))
  clear hb1 hb
  go_wp2_with fail
  go_ret2
  exact ⟨rfl, HB.out⟩
set_option maxHeartbeats 1000000 in
theorem elem_out (hp gv n c : Nat) (A : Option Addr) (x : Wd) (i : Int) (w : World) (G : Reads w 78 #[ptr hp, wd x] (.tuple #[ptr gv, .int .i64 0])) (hB : Blk w gv #[.slice A n c] 121) (hi : i < 0 ∨ (n : Int) ≤ i) (hn : n ≤ 65536) :
    Calls Tryd.prog 77 #[ptr hp, wd x, .int .i64 i] w fun e w' => e = .returned (.tuple #[.pointer none, .int .i64 3]) ∧ Below w.heap.size w w' := by
  have hb := box_below w x
  have HG := Lib.hid (G.out _ hb)
  have HBl := Lib.hid hB
  clear G hB
  rcases hi with hi | hi
  · have hd : decide (i < 0) = true := decide_eq_true hi
    go_enter Tryd.func77, Tryd.ntmps77
    go_wp2_with fail
    refine HG.out.mono ?_
    rintro e w1 ⟨rfl, hb1⟩
    have HB := Lib.hid (hb.trans (hb1.mono hb.size))
    clear hb1 hb
    go_wp2_with fail
    go_ret2
    exact ⟨rfl, HB.out⟩
  · have hd : decide (i < 0) = false := decide_eq_false (by omega)
    have hd2 : decide ((n : Int) ≤ i) = true := decide_eq_true hi
    go_enter Tryd.func77, Tryd.ntmps77
    go_wp2_with fail
    refine HG.out.mono ?_
    rintro e w1 ⟨rfl, hb1⟩
    have HB := Lib.hid (hb.trans (hb1.mono hb.size))
    have c0 := (HBl.out.below HB.out).cell 0 _ rfl
    clear hb1 hb
    go_wp2_with fail
    go_ret2
    exact ⟨rfl, HB.out⟩
set_option maxHeartbeats 1000000 in
theorem elem_in (hp gv g n c k : Nat) (x : Wd) (w : World) (G : Reads w 78 #[ptr hp, wd x] (.tuple #[ptr gv, .int .i64 0])) (hB : Blk w gv #[.slice (some ⟨g, 0, none⟩) n c] 121) (hk : k < n) (_hn : n ≤ 65536) :
    Calls Tryd.prog 77 #[ptr hp, wd x, .int .i64 (k : Int)] w fun e w' => e = .returned (.tuple #[.pointer (some ⟨g, k * 2, none⟩), .int .i64 0]) ∧ Below w.heap.size w w' := by
  have hb := box_below w x
  have HG := Lib.hid (G.out _ hb)
  have HBl := Lib.hid hB
  have hd : decide ((k : Int) < 0) = false := decide_eq_false (by omega)
  have hd2 : decide (n ≤ k) = false := decide_eq_false (by omega)
  have hd3 : decide ((n : Int) ≤ (k : Int)) = false := decide_eq_false (by omega)
  clear G hB
  go_enter Tryd.func77, Tryd.ntmps77
  go_wp2_with fail
  refine HG.out.mono ?_
  rintro e w1 ⟨rfl, hb1⟩
  have HB := Lib.hid (hb.trans (hb1.mono hb.size))
  have c0 := (HBl.out.below HB.out).cell 0 _ rfl
  clear hb1 hb
  go_wp2_with fail
  go_ret2
  exact ⟨rfl, HB.out⟩

/-- What element finds. -/
inductive ElemIs (w : World) (lab : Nat → Option Lab) (P : Parts) (ob : Obs) (x : Wd) (i : Int) : Option Addr → Int → Prop
  | none : (∀ l, findO ob x ≠ some (.vec l)) → ElemIs w lab P ob x i none 6
  | out (l : List Wd) : findO ob x = some (.vec l) → (i < 0 ∨ (l.length : Int) ≤ i) → ElemIs w lab P ob x i none 3
  | found (l : List Wd) (g k gv cap : Nat) : findO ob x = some (.vec l) → i = (k : Int) → k < l.length → lab g = some (.row x.2.toNat) → Row w g (wcells l) → P.vals[x.2.toNat]? = some (.iface 119 (ptr gv)) → lab gv = some (.obj x.2.toNat) → Blk w gv #[.slice (some ⟨g, 0, none⟩) l.length cap] 121 → l.length ≤ cap → ElemIs w lab P ob x i (some ⟨g, k * 2, none⟩) 0

theorem elem_any {w : World} {base hp lim : Nat} {ob : Obs} {lab : Nat → Option Lab} {P : Parts} (h : HeapIs w base hp lim ob lab P) (x : Wd) (i : Int) :
    ∃ a c, ElemIs w lab P ob x i a c ∧ Reads w 77 #[ptr hp, wd x, .int .i64 i] (.tuple #[.pointer a, .int .i64 c]) := by
  rcases get_vector_any h x with ⟨⟨gv, ho, hvs, hr⟩, hk⟩ | ⟨hr, hk⟩
  · match hf : findO ob x with
    | some (.vec l) =>
      rw [hf] at ho
      obtain ⟨gv', r, hv, hl, hB, A, cap, hrv, hcap, hrow⟩ := ho
      simp at hv
      subst hv
      subst hrv
      have hsm : l.length ≤ 65536 := by
        obtain ⟨_, h1, _⟩ := findO_some hf
        have := h.small x.2.toNat
        rw [h1] at this
        exact this
      by_cases hi : i < 0 ∨ (l.length : Int) ≤ i
      · exact ⟨none, 3, .out l hf hi, fun w' hb => elem_out hp gv l.length cap A x i w' (hr.below hb) (hB.below hb) hi hsm⟩
      · obtain ⟨k, rfl⟩ := Int.eq_ofNat_of_zero_le (show 0 ≤ i by omega)
        obtain ⟨g, rfl, hlg, hrw⟩ := hrow (by omega)
        exact ⟨_, 0, .found l g k gv cap hf rfl (by omega) hlg hrw hvs hl hB hcap, fun w' hb => elem_in hp gv g l.length cap k x w' (hr.below hb) (hB.below hb) (by omega) hsm⟩
    | none => rw [hf] at hk; simp at hk
    | some (.cons ..) => rw [hf] at hk; simp [Ob.kind] at hk
    | some (.text ..) => rw [hf] at hk; simp [Ob.kind] at hk
    | some (.code ..) => rw [hf] at hk; simp [Ob.kind] at hk
  · exact ⟨none, 6, .none fun l hl => hk (by rw [hl]; rfl), fun w' hb => elem_no hp x i w' (hr.below hb)⟩

/-- What At returns. -/
def atO (ob : Obs) (x : Wd) (i : Int) : Wd × Int := match findO ob x with | some (.vec l) => if i < 0 ∨ (l.length : Int) ≤ i then ((0, 0), 3) else (l.getD i.toNat (0, 0), 0) | _ => ((0, 0), 6)
set_option maxHeartbeats 2000000 in
theorem at_no (hp : Nat) (x : Wd) (i c : Int) (w : World) (hc : c ≠ 0) (G : Reads w 77 #[ptr hp, wd x, .int .i64 i] (.tuple #[.pointer none, .int .i64 c])) :
    Calls Tryd.prog 41 #[ptr hp, wd x, .int .i64 i] w fun e w' => e = .returned (.tuple #[wd (0, 0), .int .i64 c]) ∧ Below w.heap.size w w' := by
  have hb := (box_below w x).alloc (by simp) (wbox (0, 0))
  have HG := Lib.hid (G.out _ hb)
  have hd : (c != 0) = true := by simpa using hc
  clear G hc
  go_enter Tryd.func41, Tryd.ntmps41
  go_wp2_with fail
  refine HG.out.mono ?_
  rintro e w1 ⟨rfl, hb1⟩
  obtain ⟨n1, n2⟩ := two_new hb1
  obtain ⟨c0, c1, d0, d1⟩ := n2.two
  have HB := Lib.hid (hb.trans (hb1.mono hb.size))
  clear n1 n2 hb1 hb
  go_wp2_with fail
  refine bodyPost_ret (v := .tuple #[wd (0, 0), .int .i64 c]) (by simp [results, Tryd.results41, go_sem, c0, c1]) rfl ⟨rfl, ?_⟩
  exact (HB.out.setCell (by simp) _).setCell (by simp) _
set_option maxHeartbeats 2000000 in
theorem at_in (hp g k : Nat) (y : Wd) (x : Wd) (w : World) (G : Reads w 77 #[ptr hp, wd x, .int .i64 (k : Int)] (.tuple #[.pointer (some ⟨g, k * 2, none⟩), .int .i64 0])) (h1 : w.cell? ⟨g, k * 2, none⟩ = some (.int .i64 y.1)) (h2 : w.cell? ⟨g, k * 2 + 1, none⟩ = some (.int .i64 y.2)) :
    Calls Tryd.prog 41 #[ptr hp, wd x, .int .i64 (k : Int)] w fun e w' => e = .returned (.tuple #[wd y, .int .i64 0]) ∧ Below w.heap.size w w' := by
  have hb := (box_below w x).alloc (by simp) (wbox (0, 0))
  have HG := Lib.hid (G.out _ hb)
  have H1 := Lib.hid h1
  have H2 := Lib.hid h2
  clear G h1 h2
  go_enter Tryd.func41, Tryd.ntmps41
  go_wp2_with fail
  refine HG.out.mono ?_
  rintro e w1 ⟨rfl, hb1⟩
  obtain ⟨n1, n2⟩ := two_new hb1
  obtain ⟨c0, c1, d0, d1⟩ := n2.two
  have HB := Lib.hid (hb.trans (hb1.mono hb.size))
  have e1 := (HB.out.cell (World.block_lt_of_cell? _ _ H1.out)).trans H1.out
  have e2 := (HB.out.cell (World.block_lt_of_cell? _ _ H2.out)).trans H2.out
  clear n1 n2 hb1 hb
  go_wp2_with fail
  refine bodyPost_ret (v := .tuple #[wd y, .int .i64 0]) (by simp [results, Tryd.results41, go_sem, c0, c1]) rfl ⟨rfl, ?_⟩
  exact (HB.out.setCell (by simp) _).setCell (by simp) _
theorem at_any {w : World} {base hp lim : Nat} {ob : Obs} {lab : Nat → Option Lab} {P : Parts} (h : HeapIs w base hp lim ob lab P) (x : Wd) (i : Int) :
    Reads w 41 #[ptr hp, wd x, .int .i64 i] (.tuple #[wd (atO ob x i).1, .int .i64 (atO ob x i).2]) := by
  intro w' hb
  have h' := h.below hb
  obtain ⟨a, c, he, hr⟩ := elem_any h' x i
  unfold atO
  cases he with
  | none hn =>
    have e : (match findO ob x with | some (.vec l) => if i < 0 ∨ (l.length : Int) ≤ i then (((0, 0) : Wd), (3 : Int)) else (l.getD i.toNat (0, 0), 0) | _ => ((0, 0), 6)) = ((0, 0), 6) := by
      split
      · rename_i l hl; exact absurd hl (hn l)
      · rfl
    rw [e]
    exact at_no hp x i 6 w' (by omega) hr
  | out l hf hi =>
    rw [hf]
    simp only
    rw [if_pos hi]
    exact at_no hp x i 3 w' (by omega) hr
  | found l g k gv cap hf hi hk hl hrow hvs hlv hB hcap =>
    subst hi
    rw [hf]
    simp only
    rw [if_neg (by omega)]
    obtain ⟨e1, e2⟩ := wcells_at l k hk
    have e : l.getD (k : Int).toNat (0, 0) = l[k] := by simp [hk]
    rw [e]
    exact at_in hp g k _ x w' hr (hrow.cell _ _ e1) (hrow.cell _ _ e2)

/-- What SetAt returns, and the objects behind it. -/
def setAtO (ob : Obs) (x : Wd) (i : Int) (y : Wd) : Int × Obs := match findO ob x with | some (.vec l) => if i < 0 ∨ (l.length : Int) ≤ i then (3, ob) else (0, put ob x.2.toNat (some (.vec (l.set i.toNat y)))) | _ => (6, ob)
set_option maxHeartbeats 2000000 in
theorem setAt_no (hp : Nat) (x y : Wd) (i c : Int) (w : World) (hc : c ≠ 0) (G : Reads w 77 #[ptr hp, wd x, .int .i64 i] (.tuple #[.pointer none, .int .i64 c])) :
    Calls Tryd.prog 31 #[ptr hp, wd x, .int .i64 i, wd y] w fun e w' => e = .returned (.int .i64 c) ∧ Below w.heap.size w w' := by
  have hb := (box_below w x).alloc (by simp) (wbox y)
  have HG := Lib.hid (G.out _ hb)
  have hd : (c != 0) = true := by simpa using hc
  clear G hc
  go_enter Tryd.func31, Tryd.ntmps31
  go_wp2_with fail
  refine HG.out.mono ?_
  rintro e w1 ⟨rfl, hb1⟩
  have HB := Lib.hid (hb.trans (hb1.mono hb.size))
  clear hb1 hb
  go_wp2_with fail
  go_ret
  exact ⟨rfl, HB.out⟩
set_option maxHeartbeats 2000000 in
theorem setAt_in (hp g k : Nat) (l : List Wd) (x y : Wd) (w : World) (G : Reads w 77 #[ptr hp, wd x, .int .i64 (k : Int)] (.tuple #[.pointer (some ⟨g, k * 2, none⟩), .int .i64 0])) (hr : Row w g (wcells l)) (hk : k < l.length) :
    Calls Tryd.prog 31 #[ptr hp, wd x, .int .i64 (k : Int), wd y] w fun e w' => e = .returned (.int .i64 0) ∧ Row w' g (wcells (l.set k y)) ∧ Keeps (fun b => b = g) w w' := by
  have hb := (box_below w x).alloc (by simp) (wbox y)
  have HG := Lib.hid (G.out _ hb)
  have HR := Lib.hid hr
  obtain ⟨e1, e2⟩ := wcells_at l k hk
  have hs : wcells (l.set k y) = ((wcells l).set (k * 2) (.int .i64 y.1)).set (k * 2 + 1) (.int .i64 y.2) := by
    clear e1 e2 hr HR HG G
    induction l generalizing k with
    | nil => simp at hk
    | cons z l ih =>
      cases k with
      | zero => simp [wcells]
      | succ k =>
        have := ih k (by simpa using hk)
        rw [show (k + 1) * 2 = k * 2 + 1 + 1 from by omega]
        simp [wcells, this]
  rw [hs]
  obtain ⟨z, hz⟩ : ∃ z, l[k] = z := ⟨_, rfl⟩
  rw [hz] at e1 e2
  have E12 := Lib.hid (And.intro e1 e2)
  clear G hr hs e1 e2 hz hk
  go_enter Tryd.func31, Tryd.ntmps31
  go_wp2_with fail
  refine HG.out.mono ?_
  rintro e w1 ⟨rfl, hb1⟩
  obtain ⟨n1, n2⟩ := two_new hb1
  obtain ⟨c0, c1, d0, d1⟩ := n2.two
  have HB := Lib.hid (hb.trans (hb1.mono hb.size))
  have hr2 := HR.out.below HB.out
  have q1 := hr2.cell _ _ E12.out.1
  have q2 := hr2.cell _ _ E12.out.2
  have q3 := hr2.free
  have HR2 := Lib.hid hr2
  clear n1 n2 hb1 hb hr2
  go_wp2_with fail
  go_ret
  exact ⟨rfl, (HR2.out.set _ _).set _ _, ((Keeps.of_below (F := fun b => b = g) HB.out).setCell ⟨g, k * 2, none⟩ _ fun _ => rfl).setCell ⟨g, k * 2 + 1, none⟩ _ fun _ => rfl⟩
theorem setAt_any {w : World} {base hp lim : Nat} {ob : Obs} {lab : Nat → Option Lab} {P : Parts} (h : HeapIs w base hp lim ob lab P) (x : Wd) (i : Int) (y : Wd) :
    Calls Tryd.prog 31 #[ptr hp, wd x, .int .i64 i, wd y] w fun e w' => e = .returned (.int .i64 (setAtO ob x i y).1) ∧ HeapIs w' base hp lim (setAtO ob x i y).2 lab P ∧ Keeps (Of lab) w w' := by
  have fin : ∀ (c : Int) e w', e = Ending.returned (.int .i64 c) ∧ Below w.heap.size w w' → e = .returned (.int .i64 c) ∧ HeapIs w' base hp lim ob lab P ∧ Keeps (Of lab) w w' :=
    fun c e w' ⟨he, hb⟩ => ⟨he, h.below hb, .of_below hb⟩
  obtain ⟨a, c, he, hr⟩ := elem_any h x i
  unfold setAtO
  cases he with
  | none hn =>
    have e : (match findO ob x with | some (.vec l) => if i < 0 ∨ (l.length : Int) ≤ i then ((3 : Int), ob) else (0, put ob x.2.toNat (some (.vec (l.set i.toNat y)))) | _ => (6, ob)) = (6, ob) := by
      split
      · rename_i l hl; exact absurd hl (hn l)
      · rfl
    rw [e]
    exact (setAt_no hp x y i 6 w (by omega) hr).mono (fin 6)
  | out l hf hi =>
    rw [hf]
    simp only
    rw [if_pos hi]
    exact (setAt_no hp x y i 3 w (by omega) hr).mono (fin 3)
  | found l g k gv cap hf hi hk hl hrow hvs hlv hB hcap =>
    subst hi
    rw [hf]
    simp only
    rw [if_neg (by omega)]
    obtain ⟨_, hob, _⟩ := findO_some hf
    refine (setAt_in hp g k l x y w hr hrow hk).mono ?_
    rintro e w' ⟨he, hrow', hkeep⟩
    have hkk : Keeps (OfObj lab x.2.toNat) w w' := hkeep.mono fun b _ e => by subst e; exact ⟨_, hl, rfl⟩
    have hsm := h.small x.2.toNat
    rw [hob] at hsm
    refine ⟨he, h.setObj hkk hob (by simp [Ob.size]) hvs ⟨gv, _, rfl, hlv, hB.keeps hkeep (fun e => by subst e; rw [hlv] at hl; cases hl), some ⟨g, 0, none⟩, cap, by simp, by simpa using hcap, fun _ => ⟨g, rfl, hl, by simpa using hrow'⟩⟩ (by simpa [Small] using hsm), hkk.mono fun b _ e => e.of⟩
end Go.Proofs.YtcdlfgggmigcnaaDoor.Elem
