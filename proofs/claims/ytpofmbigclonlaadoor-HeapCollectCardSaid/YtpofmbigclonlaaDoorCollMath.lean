/- Plain mathematics for HeapCollect: conses that refer to one another, a search of the statement's own. -/
import Derived.Test.YtpofmbigclonlaaDoorFullMath
import Derived.Test.YtpofmbigclonlaaDoorOf
namespace Go.Proofs.YtpofmbigclonlaaDoor.Coll
open Go.Proofs.YtpofmbigclonlaaDoor.Hp Go.Proofs.YtpofmbigclonlaaDoor.Rep Go.Proofs.YtpofmbigclonlaaDoor.Add Go.Proofs.YtpofmbigclonlaaDoor.Make Go.Proofs.YtpofmbigclonlaaDoor.Kit Go.Proofs.YtpofmbigclonlaaDoor.Car Go.Proofs.YtpofmbigclonlaaDoor.Quick Go.Proofs.YtpofmbigclonlaaDoor.Dfs Go.Proofs.YtpofmbigclonlaaDoor.Elem

def obG (a d : Nat → Nat) (i : Nat) : Obs := fun k => if k < i then some (.cons (2, (a k : Int)) (2, (d k : Int))) else none
variable {a d : Nat → Nat}
theorem obG_in {i k : Nat} (h : k < i) : obG a d i k = some (.cons (2, (a k : Int)) (2, (d k : Int))) := by simp [obG, h]
theorem obG_out {i k : Nat} (h : i ≤ k) : obG a d i k = none := by simp [obG]; omega
theorem obG_zero : obG a d 0 = noObs := by funext k; simp [obG, noObs]
theorem obG_put (i : Nat) : put (obG a d i) i (some (.cons (2, (a i : Int)) (2, (d i : Int)))) = obG a d (i + 1) := by
  funext k
  by_cases h : k = i
  · subst h; rw [put_same, obG_in (by omega)]
  · rw [put_other _ _ _ _ h]
    by_cases h2 : k < i
    · rw [obG_in h2, obG_in (by omega)]
    · rw [obG_out (by omega), obG_out (by omega)]
theorem obG_free (i n : Nat) (h : i ≤ n) : freeTo (obG a d i) n = i := freeTo_unique _ _ _ h (fun k hk => by rw [obG_in hk]; rfl) fun _ => obG_out (Nat.le_refl _)
theorem obG_used (i n : Nat) : usedTo (obG a d i) n = 0 := by
  induction n with
  | zero => rfl
  | succ n ih =>
    simp only [usedTo, ih]
    by_cases h : n < i
    · rw [obG_in h]; rfl
    · rw [obG_out (by omega)]; rfl
theorem obG_add (i n : Nat) (h : i < n) : addO (obG a d i) n (.cons (2, (a i : Int)) (2, (d i : Int))) = ((2, (i : Int)), 0, obG a d (i + 1)) := by
  unfold addO
  rw [obG_free i n (by omega), obG_used, if_pos ⟨h, by simp [Ob.size]⟩, obG_put]
  rfl
theorem obG_many (n m : Nat) (h : n ≤ m) : manyTo (obG a d n) m = n := by
  rw [manyTo_more _ n m h fun i hi => obG_out hi]
  exact manyTo_all _ _ fun i hi => by rw [obG_in hi]; rfl
theorem obG_find (n x : Nat) (h : x < n) : findO (obG a d n) (2, (x : Int)) = some (.cons (2, (a x : Int)) (2, (d x : Int))) :=
  findO_mk (by show (0 : Int) ≤ x; omega) (by show obG a d n (Int.toNat x) = _; rw [Int.toNat_natCast, obG_in h]) rfl
theorem obG_lt {n : Nat} {w : Wd} {o : Ob} (h : findO (obG a d n) w = some o) : w.2.toNat < n := by
  obtain ⟨_, h1, _⟩ := findO_some h
  unfold obG at h1
  split at h1
  · assumption
  · cases h1

/-- Words of conses. -/
def wds (l : List Nat) : List Wd := l.map fun (x : Nat) => (2, (x : Int))
theorem wds_length (l : List Nat) : (wds l).length = l.length := by simp [wds]
theorem wds_append (l m : List Nat) : wds (l ++ m) = wds l ++ wds m := by simp [wds]
theorem mem_wds {l : List Nat} {w : Wd} (h : w ∈ wds l) : ∃ x ∈ l, w = (2, (x : Int)) := by
  obtain ⟨x, h1, h2⟩ := List.mem_map.1 h
  exact ⟨x, h1, h2.symm⟩

/-- What holds between the rounds of the statement's search. -/
structure DInv (a d : Nat → Nat) (n : Nat) (F : List Nat) (m : Nat → Bool) (st : List Nat) : Prop where
  small : ∀ x ∈ st, x < 41
  sound : ∀ k, m k = true → k < n ∧ Hp.Reach (obG a d n) (wds F) k
  todo : ∀ x ∈ st, x < n → Hp.Reach (obG a d n) (wds F) x
  roots : ∀ x ∈ F, x < n → m x = true ∨ x ∈ st
  kids : ∀ k, m k = true → (a k < n → m (a k) = true ∨ a k ∈ st) ∧ (d k < n → m (d k) = true ∨ d k ∈ st)
theorem DInv.start (n : Nat) (F : List Nat) (hF : ∀ x ∈ F, x < 41) : DInv a d n F (fun _ => false) F :=
  ⟨hF, (fun k h => (by cases h)), (fun x hx hn => (by
    have := Hp.Reach.root (f := obG a d n) (roots := wds F) (2, (x : Int)) _ (List.mem_map.2 ⟨x, hx, rfl⟩) (obG_find n x hn)
    simpa using this)), (fun x hx _ => .inr hx), (fun k h => (by cases h))⟩
theorem drop_last {m : Nat → Bool} {st : List Nat} {x y n : Nat} (hx : n ≤ x ∨ m x = true) (hy : y < n) (h : m y = true ∨ y ∈ st ++ [x]) : m y = true ∨ y ∈ st := by
  rcases h with h | h
  · exact .inl h
  · rcases List.mem_append.1 h with h | h
    · exact .inr h
    · simp only [List.mem_singleton] at h
      subst h
      rcases hx with hx | hx
      · omega
      · exact .inl hx
theorem DInv.skip {n : Nat} {F : List Nat} {m : Nat → Bool} {st : List Nat} {x : Nat} (h : DInv a d n F m (st ++ [x])) (hx : n ≤ x ∨ m x = true) : DInv a d n F m st :=
  ⟨fun y hy => h.small y (List.mem_append_left _ hy), h.sound, fun y hy => h.todo y (List.mem_append_left _ hy), fun y hy hn => drop_last hx hn (h.roots y hy hn),
    fun k hk => ⟨fun hn => drop_last hx hn ((h.kids k hk).1 hn), fun hn => drop_last hx hn ((h.kids k hk).2 hn)⟩⟩
theorem mark_some {m : Nat → Bool} {st : List Nat} {x y : Nat} (l : List Nat) (h : m y = true ∨ y ∈ st ++ [x]) : markAt m x y = true ∨ y ∈ st ++ l := by
  by_cases e : y = x
  · left; simp [markAt, e]
  · rcases h with h | h
    · left; simp [markAt, e, h]
    · rcases List.mem_append.1 h with h | h
      · exact .inr (List.mem_append_left _ h)
      · simp only [List.mem_singleton] at h
        exact absurd h e
theorem DInv.visit {n : Nat} {F : List Nat} {m : Nat → Bool} {st : List Nat} {x : Nat} (h : DInv a d n F m (st ++ [x])) (hx : x < n) (ha : a x < 41) (hd : d x < 41) : DInv a d n F (markAt m x) (st ++ [a x, d x]) := by
  have hr : Hp.Reach (obG a d n) (wds F) x := h.todo x (by simp) hx
  have kid : ∀ y : Nat, (2, (y : Int)) ∈ (Ob.cons (2, (a x : Int)) (2, (d x : Int))).words → y < n → Hp.Reach (obG a d n) (wds F) y := fun y hy hn => by
    have := Hp.Reach.step (f := obG a d n) (roots := wds F) x _ (2, (y : Int)) _ hr (obG_in hx) hy (obG_find n y hn)
    simpa using this
  refine ⟨fun y hy => ?_, fun k hk => ?_, fun y hy hn => ?_, fun y hy hn => mark_some _ (h.roots y hy hn), fun k hk => ?_⟩
  · rcases List.mem_append.1 hy with hy | hy
    · exact h.small y (List.mem_append_left _ hy)
    · simp only [List.mem_cons, List.not_mem_nil, or_false] at hy
      rcases hy with rfl | rfl
      · exact ha
      · exact hd
  · by_cases e : k = x
    · subst e; exact ⟨hx, hr⟩
    · exact h.sound k (by simpa [markAt, e] using hk)
  · rcases List.mem_append.1 hy with hy | hy
    · exact h.todo y (List.mem_append_left _ hy) hn
    · simp only [List.mem_cons, List.not_mem_nil, or_false] at hy
      rcases hy with rfl | rfl
      · exact kid _ (by simp [Ob.words]) hn
      · exact kid _ (by simp [Ob.words]) hn
  · by_cases e : k = x
    · subst e
      exact ⟨fun _ => .inr (by simp), fun _ => .inr (by simp)⟩
    · have hk' : m k = true := by simpa [markAt, e] using hk
      exact ⟨fun hn => mark_some _ ((h.kids k hk').1 hn), fun hn => mark_some _ ((h.kids k hk').2 hn)⟩
/-- The objects that are marked. -/
def col (a d : Nat → Nat) (n : Nat) (m : Nat → Bool) : Obs := fun k => if m k = true then obG a d n k else none
theorem DInv.done {n : Nat} {F : List Nat} {m : Nat → Bool} (h : DInv a d n F m []) : collected (obG a d n) (wds F) = col a d n m := by
  funext k
  refine collected_of_marks _ _ m (fun k hk => (h.sound k hk).2) (fun w o hw ho => ?_) (fun k p w o hk hp hw ho => ?_) k
  · obtain ⟨x, hx, rfl⟩ := mem_wds hw
    have hn := obG_lt ho
    simp only [Int.toNat_natCast] at hn ⊢
    rcases h.roots x hx hn with h | h
    · exact h
    · cases h
  · have hn := obG_lt ho
    have hkn := (h.sound k hk).1
    rw [obG_in hkn] at hp
    cases hp
    simp only [Ob.words, List.mem_cons, List.not_mem_nil, or_false] at hw
    rcases hw with rfl | rfl
    · simp only [Int.toNat_natCast] at hn ⊢
      rcases (h.kids k hk).1 hn with h | h
      · exact h
      · cases h
    · simp only [Int.toNat_natCast] at hn ⊢
      rcases (h.kids k hk).2 hn with h | h
      · exact h
      · cases h

/-- A second collection finds nothing. -/
theorem find_collected {f : Obs} {roots : List Wd} {w : Wd} {o : Ob} (h : findO f w = some o) (hr : Hp.Reach f roots w.2.toNat) : findO (collected f roots) w = some o := by
  obtain ⟨h0, h1, h2⟩ := findO_some h
  refine findO_mk h0 ?_ h2
  unfold collected
  rw [if_pos hr, h1]
theorem reach_collected {f : Obs} {roots : List Wd} {n : Nat} (h : Hp.Reach f roots n) : Hp.Reach (collected f roots) roots n := by
  induction h with
  | root w o hw ho => exact .root w o hw (find_collected ho (.root w o hw ho))
  | step k p w o hk hp hw ho ih =>
    refine .step k p w o ih ?_ hw (find_collected ho (.step k p w o hk hp hw ho))
    unfold collected
    rw [if_pos hk, hp]
theorem collected_in {f : Obs} {roots : List Wd} {n : Nat} (h : Hp.Reach f roots n) : collected f roots n = f n := by unfold collected; rw [if_pos h]
theorem collected_out {f : Obs} {roots : List Wd} {n : Nat} (h : ¬ Hp.Reach f roots n) : collected f roots n = none := by unfold collected; rw [if_neg h]
theorem collected_twice (f : Obs) (roots : List Wd) : collected (collected f roots) roots = collected f roots := by
  funext n
  by_cases h : Hp.Reach f roots n
  · exact collected_in (reach_collected h)
  · by_cases h2 : Hp.Reach (collected f roots) roots n
    · exact collected_in h2
    · rw [collected_out h2, collected_out h]

/-- How many are marked. -/
def cnt (m : Nat → Bool) : Nat → Nat
  | 0 => 0
  | i + 1 => cnt m i + (if m i = true then 1 else 0)
theorem cnt_le (m : Nat → Bool) (i : Nat) : cnt m i ≤ i := by
  induction i with
  | zero => simp [cnt]
  | succ i ih => simp only [cnt]; split <;> omega
theorem col_many (n b : Nat) (m : Nat → Bool) (h : n ≤ b) : manyTo (col a d n m) b = cnt m n := by
  have hout : ∀ i, n ≤ i → col a d n m i = none := fun i hi => by unfold col; rw [obG_out hi]; split <;> rfl
  rw [manyTo_more _ n b h hout]
  have : ∀ i, i ≤ n → manyTo (col a d n m) i = cnt m i := by
    intro i
    induction i with
    | zero => intro _; rfl
    | succ i ih =>
      intro hi
      simp only [manyTo, cnt]
      rw [ih (by omega)]
      unfold col
      rw [obG_in (show i < n by omega)]
      cases m i <;> simp
  exact this n (Nat.le_refl _)
theorem col_find (n i : Nat) (m : Nat → Bool) (h : i < n) : findO (col a d n m) (2, (i : Int)) = if m i = true then some (.cons (2, (a i : Int)) (2, (d i : Int))) else none := by
  cases hm : m i with
  | true =>
    rw [if_pos rfl]
    exact findO_mk (by show (0 : Int) ≤ i; omega) (by show col a d n m (Int.toNat i) = _; rw [Int.toNat_natCast]; unfold col; rw [hm, if_pos rfl, obG_in h]) rfl
  | false =>
    rw [if_neg (by simp)]
    refine findO_none fun _ o ho => ?_
    simp only [Int.toNat_natCast] at ho
    unfold col at ho
    rw [hm, if_neg (by simp)] at ho
    cases ho
theorem col_car (n i : Nat) (m : Nat → Bool) (h : i < n) : carO (col a d n m) (2, (i : Int)) = if m i = true then ((2, (a i : Int)), 0) else ((0, 0), 6) := by
  unfold carO
  rw [if_neg (by intro h; cases h), col_find n i m h]
  cases m i <;> rfl
theorem col_cdr (n i : Nat) (m : Nat → Bool) (h : i < n) : cdrO (col a d n m) (2, (i : Int)) = if m i = true then ((2, (d i : Int)), 0) else ((0, 0), 6) := by
  unfold cdrO
  rw [if_neg (by intro h; cases h), col_find n i m h]
  cases m i <;> rfl
theorem col_live (n i : Nat) (m : Nat → Bool) (h : i < n) : liveO (col a d n m) (2, (i : Int)) = m i := by
  unfold liveO
  rw [col_find n i m h]
  cases m i <;> rfl
/-- The collections' numbers. -/
theorem col_gone {n : Nat} {F : List Nat} {m : Nat → Bool} (h : DInv a d n F m []) (hn : n ≤ 50) : ((manyTo (obG a d n) 50 : Nat) : Int) - (manyTo (collected (obG a d n) (wds F)) 50 : Nat) = (n : Int) - (cnt m n : Int) := by
  rw [h.done, obG_many n 50 hn, col_many n 50 m hn]
theorem col_again {n : Nat} {F : List Nat} {m : Nat → Bool} (h : DInv a d n F m []) : collected (col a d n m) (wds F) = col a d n m := by
  rw [← h.done, collected_twice]
/-- The room that the search takes. -/
theorem unm_visit (m : Nat → Bool) (n x : Nat) (h : x < n) (hm : m x = false) : unm (markAt m x) n + 1 = unm m n := unm_mark m n x h hm
end Go.Proofs.YtpofmbigclonlaaDoor.Coll
