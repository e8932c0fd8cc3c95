/- NamesOnce: what interning keeps. -/
import Derived.Test.YtcdlfgggmigcnaaDoorNtLives
import Derived.Test.YtcdlfgggmigcnaaDoorNtFull
namespace Go.Proofs.YtcdlfgggmigcnaaDoor.Nt
set_option maxRecDepth 100000
open Go.Lib (validD)
open Go.Proofs.YtcdlfgggmigcnaaDoor.Strs

/-- A table that has come from another one by one call. -/
structure Ext (t t' : Tb) : Prop where
  syms : ∀ (i : Nat) (y : Sy), t.syms[i]? = some y → t'.syms[i]? = some y
  find : ∀ s (n : Nat), t.find s = some n → t'.find s = some n
  new : ∀ s (n : Nat), t'.find s = some n → t.find s = some n ∨ n = t.syms.length
theorem Ext.refl (t : Tb) : Ext t t := ⟨fun _ _ h => h, fun _ _ h => h, fun _ _ h => .inl h⟩
/-- What is known of a name that was given. -/
structure Rec (t : Tb) (s : ByteArray) (b : Bool) (a : Nat) : Prop where
  name : ∃ y : Sy, t.syms[a]? = some y ∧ y.name = s
  yes : b = true → t.find s = some a
  no : b = false → t.find s ≠ some a
theorem Rec.ext {t t' : Tb} {s : ByteArray} {b : Bool} {a : Nat} (h : Rec t s b a) (e : Ext t t') : Rec t' s b a := by
  obtain ⟨y, hy, hn⟩ := h.name
  refine ⟨⟨y, e.syms a y hy, hn⟩, fun hb => e.find s a (h.yes hb), fun hb hf => ?_⟩
  rcases e.new s a hf with h1 | h1
  · exact h.no hb h1
  · have := (List.getElem?_eq_some_iff.1 hy).1
    omega
theorem ext_fresh (t : Tb) (s : ByteArray) : Ext t ⟨t.syms ++ [newSy s], t.find⟩ :=
  ⟨fun i y h => by rw [List.getElem?_append_left (List.getElem?_eq_some_iff.1 h).1]; exact h, fun _ _ h => h, fun _ _ h => .inl h⟩
theorem ext_intern (t : Tb) (s : ByteArray) (hf : t.find s = none) : Ext t ⟨t.syms ++ [newSy s], upd t.find s t.syms.length⟩ := by
  refine ⟨fun i y h => by rw [List.getElem?_append_left (List.getElem?_eq_some_iff.1 h).1]; exact h, fun u n h => ?_, fun u n h => ?_⟩
  · simp only [upd]
    split
    · rename_i e
      rw [e, hf] at h
      cases h
    · exact h
  · simp only [upd] at h
    split at h
    · cases h
      exact .inr rfl
    · exact .inl h
theorem new_at (t : Tb) (s : ByteArray) : (t.syms ++ [newSy s])[t.syms.length]? = some (newSy s) := by simp
/-- All names that are found are valid; what is found has the name; numbers are below the number of symbols. -/
structure Wf (t : Tb) : Prop where
  valid : ∀ s (n : Nat), t.find s = some n → validD s.data.toList = true
  found : ∀ s (n : Nat), t.find s = some n → ∃ y : Sy, t.syms[n]? = some y ∧ y.name = s
theorem t0_wf : Wf t0 := by
  refine ⟨fun s n h => (fx_good s (List.mem_of_getElem? (idx_some h))).1.1, fun s n h => ?_⟩
  refine ⟨newSy s, ?_, rfl⟩
  have := idx_some h
  show (fx.map newSy)[n]? = _
  rw [List.getElem?_map, this]
  rfl
theorem Wf.fresh {t : Tb} (h : Wf t) (s : ByteArray) : Wf ⟨t.syms ++ [newSy s], t.find⟩ :=
  ⟨h.valid, fun u n hu => by obtain ⟨y, hy, hn⟩ := h.found u n hu; exact ⟨y, (ext_fresh t s).syms n y hy, hn⟩⟩
theorem Wf.intern {t : Tb} (h : Wf t) (s : ByteArray) (hv : validD s.data.toList = true) : Wf ⟨t.syms ++ [newSy s], upd t.find s t.syms.length⟩ := by
  refine ⟨fun u n hu => ?_, fun u n hu => ?_⟩
  · simp only [upd] at hu
    split at hu
    · rename_i e; rw [e]; exact hv
    · exact h.valid u n hu
  · simp only [upd] at hu
    split at hu
    · rename_i e
      cases hu
      exact ⟨newSy s, new_at t s, by rw [e]; rfl⟩
    · obtain ⟨y, hy, hn⟩ := h.found u n hu
      exact ⟨y, (ext_fresh t s).syms n y hy, hn⟩

/-- The results of the calls on a name of at most 300 bytes where there is room. -/
theorem fresh_valid {t : Tb} {s : ByteArray} (hs : s.size ≤ 300) (hm : t.syms.length < 16384) (hv : validD s.data.toList = true) : freshO t s = ((t.syms.length : Int), 0, ⟨t.syms ++ [newSy s], t.find⟩) := freshO_new (good_of s hv (by omega)) hm
theorem fresh_invalid {t : Tb} {s : ByteArray} (hv : validD s.data.toList = false) : freshO t s = (0, 5, t) := by
  unfold freshO
  rw [if_pos hv]
theorem intern_found {t : Tb} {s : ByteArray} {n : Nat} (h : t.find s = some n) : internO t s = ((n : Int), 0, t) := by
  unfold internO
  rw [h]
theorem intern_valid {t : Tb} {s : ByteArray} (hf : t.find s = none) (hs : s.size ≤ 300) (hm : t.syms.length < 16384) (hv : validD s.data.toList = true) : internO t s = ((t.syms.length : Int), 0, ⟨t.syms ++ [newSy s], upd t.find s t.syms.length⟩) := internO_new hf (good_of s hv (by omega)) hm
theorem intern_invalid {t : Tb} {s : ByteArray} (hf : t.find s = none) (hv : validD s.data.toList = false) : internO t s = (0, 5, t) := by
  unfold internO
  rw [hf]
  simp only
  rw [if_neg (by rw [fresh_invalid hv]; simp), fresh_invalid hv]

theorem rec_fresh {t : Tb} (h : Wf t) (s : ByteArray) : Rec ⟨t.syms ++ [newSy s], t.find⟩ s false t.syms.length := by
  refine ⟨⟨newSy s, new_at t s, rfl⟩, fun e => (by cases e), fun _ hf => ?_⟩
  obtain ⟨y, hy, _⟩ := h.found s _ hf
  have := (List.getElem?_eq_some_iff.1 hy).1
  omega
theorem rec_intern {t : Tb} (s : ByteArray) : Rec ⟨t.syms ++ [newSy s], upd t.find s t.syms.length⟩ s true t.syms.length :=
  ⟨⟨newSy s, new_at t s, rfl⟩, fun _ => (by simp [upd]), fun e => (by cases e)⟩
theorem rec_found {t : Tb} (h : Wf t) {s : ByteArray} {n : Nat} (hf : t.find s = some n) : Rec t s true n :=
  ⟨h.found s n hf, fun _ => hf, fun e => by cases e⟩
theorem interned_new {t : Tb} (s : ByteArray) : internedO ⟨t.syms ++ [newSy s], upd t.find s t.syms.length⟩ (t.syms.length : Int) = true := by
  unfold internedO
  rw [symO_nat]
  rw [new_at]
  simp [newSy, upd]
theorem interned_fresh {t : Tb} (h : Wf t) (s : ByteArray) : internedO ⟨t.syms ++ [newSy s], t.find⟩ (t.syms.length : Int) = false := by
  unfold internedO
  rw [symO_nat]
  rw [new_at]
  simp only [newSy]
  cases hf : t.find s with
  | none => rfl
  | some n =>
    obtain ⟨y, hy, _⟩ := h.found s n hf
    have := (List.getElem?_eq_some_iff.1 hy).1
    simp
    omega
end Go.Proofs.YtcdlfgggmigcnaaDoor.Nt
