/- The contract of Intern. -/
import Derived.Test.YtcdlfgggmigcnaaDoorNtFresh
namespace Go.Proofs.YtcdlfgggmigcnaaDoor.Nt
set_option maxRecDepth 100000
open Go.RowKit Go.Lib Go.Shelf
open Go.Proofs.YtcdlfgggmigcnaaDoor.Own Go.Proofs.YtcdlfgggmigcnaaDoor.Strs

/-- What Intern returns, and the table behind it. -/
def internO (t : Tb) (s : ByteArray) : Int × Int × Tb :=
  match t.find s with
  | some n => ((n : Int), 0, t)
  | none => if (freshO t s).2.1 = 0 then (t.syms.length, 0, ⟨t.syms ++ [newSy s], upd t.find s t.syms.length⟩) else (0, (freshO t s).2.1, t)

theorem freshO_ok {t : Tb} {s : ByteArray} (h : (freshO t s).2.1 = 0) : freshO t s = ((t.syms.length : Int), 0, ⟨t.syms ++ [newSy s], t.find⟩) ∧ validD s.data.toList = true ∧ lenL s.data.toList ≤ 1000 ∧ t.syms.length < 16384 := by
  unfold freshO at h ⊢
  split at h
  · cases h
  · rename_i hv
    split at h
    · cases h
    · split at h
      · cases h
      · rename_i h1 h2
        rw [if_neg hv, if_neg h1, if_neg h2]
        exact ⟨rfl, by simpa using hv, by omega, by omega⟩
theorem freshO_err {t : Tb} {s : ByteArray} (h : (freshO t s).2.1 ≠ 0) : (freshO t s).1 = 0 ∧ (freshO t s).2.2 = t := by
  unfold freshO at h ⊢
  split
  · exact ⟨rfl, rfl⟩
  · split
    · exact ⟨rfl, rfl⟩
    · split
      · exact ⟨rfl, rfl⟩
      · rename_i h1 h2 h3
        rw [if_neg h1, if_neg h2, if_neg h3] at h
        exact absurd rfl h

/-- The table behind a store into its map. -/
theorem TabIs.stored {w w' : World} {base tp n m : Nat} {t : Tb} {lab : Nat → Option TLab} {P : TParts} {s : ByteArray} {y : Sy} (h : TabIs w base tp t lab P) (hk : Keeps (fun b => b = P.mb) w w') (hm : MapIs w' P.mb (upd t.find s n) m) (hle : m ≤ t.syms.length) (hy : t.syms[n]? = some y) (hn : y.name = s) :
    TabOk w w' base tp ⟨t.syms, upd t.find s n⟩ lab := by
  have hF : ∀ b k, lab b = some k → k ≠ .map → ¬ (b = P.mb) := fun b k hl hne e => by
    subst e
    rw [h.mlab] at hl
    cases hl
    exact hne rfl
  refine ⟨lab, P, { h with
    inb := fun b l hl => ⟨(h.inb b l hl).1, Nat.lt_of_lt_of_le (h.inb b l hl).2 hk.size⟩
    blk := h.blk.keeps hk (hF _ _ h.hdr (by simp))
    map := hm.mono hle
    syms := owns_keeps h.syms hk fun k hv => hF _ _ (h.slab k hv) (by simp)
    props := fun i s hs => owns_keeps (h.props i s hs) hk fun k hv => hF _ _ (h.plab i k hv) (by simp)
    found := fun u k hu => ?_ }, ⟨hk.mono fun b _ e => ?_, fun b hb => .inl hb⟩⟩
  · simp only [upd] at hu
    split at hu
    · rename_i e
      cases hu
      exact ⟨y, hy, by rw [e, hn]⟩
    · exact h.found u k hu
  · subst e
    unfold TOf
    rw [h.mlab]
    simp

theorem intern_null (s : ByteArray) (w : World) : Calls Tryd.prog 46 #[.pointer none, .string s] w fun e w' => e = .returned (.tuple #[.int .i64 0, .int .i64 1]) ∧ w = w' := by
  have HV := Lib.hid (find_null s)
  have HW := Lib.hid (fresh_null s)
  go_enter Tryd.func46, Tryd.ntmps46
  go_wp2_with (first
    | (go_at_call 58; refine (HV.out _).mono ?_; rintro e w' ⟨rfl, rfl⟩)
    | (go_at_call 48; refine (HW.out _).mono ?_; rintro e w' ⟨rfl, rfl⟩))
  go_ret2
  exact ⟨rfl, rfl⟩
set_option maxHeartbeats 1000000 in
theorem intern_hit {w : World} {base tp : Nat} {t : Tb} {lab : Nat → Option TLab} {P : TParts} (h : TabIs w base tp t lab P) (s : ByteArray) (hs : s.size ≤ maxLen) (n : Nat) (hf : t.find s = some n) :
    Calls Tryd.prog 46 #[tptr tp, .string s] w fun e w' => e = .returned (.tuple #[.int .i64 (n : Int), .int .i64 0]) ∧ w = w' := by
  have h1 := find_any h s hs
  rw [hf] at h1
  have H1 := Lib.hid h1
  clear h1 h
  go_enter Tryd.func46, Tryd.ntmps46
  go_wp2_with (first
    | (go_at_call 58; refine H1.out.mono ?_; rintro e w' ⟨rfl, rfl⟩))
  go_ret2
  exact ⟨by simp, rfl⟩
set_option maxHeartbeats 1000000 in
theorem intern_err {w : World} {base tp : Nat} {t : Tb} {lab : Nat → Option TLab} {P : TParts} (h : TabIs w base tp t lab P) (hb : base ≤ w.heap.size) (s : ByteArray) (hs : s.size ≤ 4611686018427387904) (hT : Tabs w) (hf : t.find s = none) (hc : (freshO t s).2.1 ≠ 0) :
    Calls Tryd.prog 46 #[tptr tp, .string s] w fun e w' => e = .returned (.tuple #[.int .i64 0, .int .i64 (freshO t s).2.1]) ∧ TabOk w w' base tp t lab := by
  have h1 := find_any h s (by unfold maxLen; omega)
  rw [hf] at h1
  have h2 := fresh_any h hb s hs hT
  obtain ⟨e1, e2⟩ := freshO_err hc
  rw [e1, e2] at h2
  generalize (freshO t s).2.1 = c at *
  have H1 := Lib.hid h1
  have H2 := Lib.hid h2
  have hd : (c != 0) = true := by simpa using hc
  clear h1 h h2 hc e1 e2
  go_enter Tryd.func46, Tryd.ntmps46
  go_wp2_with (first
    | (go_at_call 58; refine H1.out.mono ?_; rintro e w' ⟨rfl, rfl⟩)
    | (go_at_call 48; refine H2.out.mono ?_; rintro e w2 ⟨rfl, h2⟩))
  go_ret2
  exact ⟨rfl, h2.ok⟩
set_option maxHeartbeats 2000000 in
theorem intern_new {w : World} {base tp : Nat} {t : Tb} {lab : Nat → Option TLab} {P : TParts} (h : TabIs w base tp t lab P) (hb : base ≤ w.heap.size) (s : ByteArray) (hs : s.size ≤ 4611686018427387904) (hT : Tabs w) (hf : t.find s = none) (hc : (freshO t s).2.1 = 0) :
    Calls Tryd.prog 46 #[tptr tp, .string s] w fun e w' => e = .returned (.tuple #[.int .i64 (t.syms.length : Int), .int .i64 0]) ∧ TabOk w w' base tp ⟨t.syms ++ [newSy s], upd t.find s t.syms.length⟩ lab := by
  have h1 := find_any h s (by unfold maxLen; omega)
  rw [hf] at h1
  have h2 := fresh_any h hb s hs hT
  obtain ⟨e1, hv, hl, hm⟩ := freshO_ok hc
  rw [e1] at h2
  obtain ⟨m, hme⟩ : ∃ m, t.syms.length = m := ⟨_, rfl⟩
  rw [hme] at h2
  have H1 := Lib.hid h1
  have H2 := Lib.hid h2
  have HM := Lib.hid hme
  rw [hme] at hm ⊢
  clear h1 h h2 hc e1 hf hv hl hme
  go_enter Tryd.func46, Tryd.ntmps46
  go_wp2_with (first
    | (go_at_call 58; refine H1.out.mono ?_; rintro e w' ⟨rfl, rfl⟩)
    | (go_at_call 48; refine H2.out.mono ?_; rintro e w2 ⟨rfl, lab2, P2, hI2, hA2, hm2⟩))
  have hy : (t.syms ++ [newSy s])[m]? = some (newSy s) := by rw [← HM.out]; simp
  obtain ⟨g, cap, hv, hg, hr, _⟩ := hI2.symbol m (newSy s) hy
  obtain ⟨c2', _⟩ := sy_cells hr m (newSy s) hy
  obtain ⟨c0', c1⟩ := hI2.two
  rw [hv] at c0'
  have hlen : (t.syms ++ [newSy s]).length = m + 1 := by rw [List.length_append, HM.out]; rfl
  have e0 : (Value.slice (some ⟨g, 0, none⟩) (t.syms ++ [newSy s]).length cap) = .slice (some ⟨g, 0, none⟩) (m + 1) cap := by rw [hlen]
  have c0 := c0'.trans (congrArg some e0)
  have c2 : w2.cell? ⟨g, m * 5, none⟩ = some (.string s) := c2'
  clear c0' c2'
  obtain ⟨w3, hrun, hm3, hg3⟩ := (show MapIs w2.drew P2.mb t.find m from hm2).store (by unfold maxLen; omega) s (by unfold maxLen; omega) m (by omega)
  have hk3 : Keeps (fun b => b = P2.mb) w2 w3 := (Keeps.refl _ w2).trans ((Keeps.of_below (show Below w2.heap.size w2 w2.drew from ⟨rfl, rfl, rfl, Nat.le_refl _, fun _ _ => rfl⟩)).trans (keeps_of_grown hg3))
  obtain ⟨lab3, P3, hI3, hA3⟩ := hI2.stored hk3 hm3 (by rw [hlen]; omega) hy rfl
  have HF := Lib.hid (show TabOk w w3 base tp ⟨t.syms ++ [newSy s], upd t.find s m⟩ lab from ⟨lab3, P3, hI3, hA2.trans hA3⟩)
  clear hI2 hA2 hm2 hr hm3 hg3 hk3 hI3 hA3 hg
  have hmz : (m : Int) < (m : Int) + 1 := by omega
  have hmz2 : m < m + 1 := by omega
  go_region_law ((refine step_mapUpdate (w := w2.drew) rfl (.tmp 30) (.tmp 38) (.tmp 39) 139 rfl (.map (some P2.mb)) (.string s) (.int .i64 (m : Int)) rfl rfl rfl w3 hrun ?_))
  all_goals (
    go_wp2_with fail
    go_ret2
    exact ⟨rfl, HF.out⟩)

/-- The contract of Intern. -/
theorem intern_any {w : World} {base tp : Nat} {t : Tb} {lab : Nat → Option TLab} {P : TParts} (h : TabIs w base tp t lab P) (hb : base ≤ w.heap.size) (s : ByteArray) (hs : s.size ≤ 4611686018427387904) (hT : Tabs w) :
    Calls Tryd.prog 46 #[tptr tp, .string s] w fun e w' => e = .returned (.tuple #[.int .i64 (internO t s).1, .int .i64 (internO t s).2.1]) ∧ TabOk w w' base tp (internO t s).2.2 lab := by
  unfold internO
  cases hf : t.find s with
  | some n => exact (intern_hit h s (by unfold maxLen; omega) n hf).mono fun e w' ⟨he, hw⟩ => ⟨he, by subst hw; exact ⟨lab, P, h, .refl _ _⟩⟩
  | none =>
    simp only
    by_cases hc : (freshO t s).2.1 = 0
    · rw [if_pos hc]
      exact intern_new h hb s hs hT hf hc
    · rw [if_neg hc]
      exact intern_err h hb s hs hT hf hc
end Go.Proofs.YtcdlfgggmigcnaaDoor.Nt
