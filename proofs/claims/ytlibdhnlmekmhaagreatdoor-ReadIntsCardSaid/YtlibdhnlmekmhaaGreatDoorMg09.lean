/- The contracts of (*Heap).find over a heap, and of get at each type of object. -/
import Derived.Test.YtlibdhnlmekmhaaGreatDoorMg08
namespace Go.Proofs.YtlibdhnlmekmhaaGreatDoor.Get
open Go.RowKit
open Go.Proofs.YtlibdhnlmekmhaaGreatDoor.Own Go.Proofs.YtlibdhnlmekmhaaGreatDoor.Hp Go.Proofs.YtlibdhnlmekmhaaGreatDoor.HeapOrd Go.Proofs.YtlibdhnlmekmhaaGreatDoor.Rep Go.Proofs.YtlibdhnlmekmhaaGreatDoor.Base Go.Proofs.YtlibdhnlmekmhaaGreatDoor.Find

/-- A call that returns a value and leaves all that was there as it was, in every world that has only grown. -/
def Reads (W : World) (f : FuncId) (a : Array Value) (v : Value) : Prop := ∀ w, Below W.heap.size W w → Calls Tryz.prog f a w fun e w' => e = .returned v ∧ Below w.heap.size w w'
theorem Reads.out {W : World} {f : FuncId} {a : Array Value} {v : Value} (h : Reads W f a v) (w : World) (hb : Below W.heap.size W w) : Calls Tryz.prog f a w fun e w' => e = .returned v ∧ Below w.heap.size w w' := h w hb
theorem Reads.at {W : World} {f : FuncId} {a : Array Value} {v : Value} (h : Reads W f a v) : Calls Tryz.prog f a W fun e w' => e = .returned v ∧ Below W.heap.size W w' := h W (Below.refl _ _)
theorem Reads.below {W w : World} {f : FuncId} {a : Array Value} {v : Value} (h : Reads W f a v) (hb : Below W.heap.size W w) : Reads w f a v := fun w' hb' => h w' (hb.trans (hb'.mono hb.size))
theorem reads_same {W : World} {f : FuncId} {a : Array Value} {v : Value} (h : ∀ w, Below W.heap.size W w → Calls Tryz.prog f a w fun e w' => e = .returned v ∧ w = w') : Reads W f a v :=
  fun w hb => (h w hb).mono fun _ _ ⟨he, hw⟩ => ⟨he, by subst hw; exact Below.refl _ _⟩

abbrev ptr (g : Nat) : Value := .pointer (some ⟨g, 0, none⟩)

theorem find_any {w : World} {base hp lim : Nat} {ob : Obs} {lab : Nat → Option Lab} {P : Parts} (h : HeapIs w base hp lim ob lab P) (x : Wd) :
    ∃ v, ObAt w lab x.2.toNat v (findO ob x) ∧ (findO ob x ≠ none → P.vals[x.2.toNat]? = some v) ∧ Reads w 133 #[ptr hp, wd x] v := by
  obtain ⟨k, n⟩ := x
  have hc : ∀ w', Below w.heap.size w w' → w'.cell? ⟨hp, 1, none⟩ = some P.ov := fun w' hb => (h.below hb).blk.cell 1 _ rfl
  by_cases h0 : n < 0
  · have hn := findO_none (f := ob) (w := (k, n)) fun hh => absurd hh (by show ¬ 0 ≤ n; omega)
    refine ⟨.nilIface, ?_, fun hh => absurd hn hh, fun w' _ => find_less hp k n w' h0⟩
    rw [hn]
    exact rfl
  · obtain ⟨i, rfl⟩ := Int.eq_ofNat_of_zero_le (by omega : 0 ≤ n)
    by_cases hi : i < P.m
    · obtain ⟨v, hv, ho⟩ := h.each i hi
      have hr := h.objs.2
      rcases hr with ⟨_, h0⟩ | ⟨g, cap, cur, hov, _⟩
      · omega
      · have hcell : ∀ w', Below w.heap.size w w' → w'.cell? ⟨g, i, none⟩ = some v := fun w' hb => by
          have := (h.below hb).objs
          rw [hov] at this
          exact (Row.of_owns this).cell i v hv
        have hf : findO ob (k, (i : Int)) = (match ob i with | some o => if o.kind = k then some o else none | none => none) := by
          unfold findO
          rw [if_pos (by show (0 : Int) ≤ i; omega)]
          rfl
        refine ⟨if kindO (ob i) = k then v else .nilIface, ?_, ?_, fun w' hb => find_in hp g i k (kindO (ob i)) P.m cap v w' (by rw [hc w' hb, hov]) (hcell w' hb) hi (fun w2 => kind_any lab i v (ob i) w w2 ho) _ rfl⟩
        rotate_left
        · intro hh
          rw [hf] at hh
          cases hob : ob i with
          | none => rw [hob] at hh; exact absurd rfl hh
          | some o =>
            rw [hob] at hh
            have hk : o.kind = k := Classical.byContradiction fun hk => hh (if_neg hk)
            show P.vals[i]? = some (if o.kind = k then v else .nilIface)
            rw [if_pos hk]
            exact hv
        show ObAt w lab i _ _
        rw [hf]
        cases hob : ob i with
        | none =>
          rw [hob] at ho
          obtain rfl := ho
          simp [ObAt]
        | some o =>
          show ObAt w lab i (if o.kind = k then v else .nilIface) (if o.kind = k then some o else none)
          by_cases hk : o.kind = k
          · rw [if_pos hk, if_pos hk, ← hob]; exact ho
          · rw [if_neg hk, if_neg hk]; exact rfl
    · have hov : ∃ A cap, P.ov = .slice A P.m cap := by
        rcases h.objs.2 with ⟨hv, hm⟩ | ⟨g, cap, cur, hov, _⟩
        · exact ⟨none, 0, by rw [hv, hm]⟩
        · exact ⟨_, _, hov⟩
      obtain ⟨A, cap, hov⟩ := hov
      have hn := findO_none (f := ob) (w := (k, (i : Int))) fun hh o ho => by
        have := h.out i (by omega)
        simp only [Int.toNat_natCast] at ho
        rw [this] at ho; cases ho
      refine ⟨.nilIface, ?_, fun hh => absurd hn hh, fun w' hb => find_more hp k i A P.m cap w' (by rw [hc w' hb, hov]) (by omega) (by omega)⟩
      rw [hn]
      exact rfl

theorem get_cons_null (x : Wd) (w : World) : Calls Tryz.prog 71 #[.pointer none, wd x] w fun e w' => e = .returned (.tuple #[.pointer none, .int .i64 1]) ∧ Below w.heap.size w w' := by
  have HV := Lib.hid valid_nil
  go_enter Tryz.func71, Tryz.ntmps71
  go_wp2_with (go_at_call 69; refine (HV.out _).mono ?_; rintro e w' ⟨rfl, rfl⟩)
  go_ret2
  exact ⟨rfl, (Below.refl _ _).alloc (Nat.le_refl _) _⟩
set_option maxHeartbeats 1000000 in
theorem get_cons_none (hp : Nat) (x : Wd) (w : World) (V : ∀ w', Below w.heap.size w w' → Calls Tryz.prog 69 #[ptr hp] w' fun e w'' => e = .returned (.bool true) ∧ w' = w'') (Fi : Reads w 133 #[ptr hp, wd x] .nilIface) :
    Calls Tryz.prog 71 #[ptr hp, wd x] w fun e w' => e = .returned (.tuple #[.pointer none, .int .i64 6]) ∧ Below w.heap.size w w' := by
  have hb0 : Below w.heap.size w (w.alloc (.cells #[.int .i64 x.1, .int .i64 x.2] 28)) := (Below.refl _ _).alloc (Nat.le_refl _) _
  have HV := Lib.hid (V _ hb0)
  have HF := Lib.hid (Fi.out _ hb0)
  have a1 := as_nil_cons
  clear V Fi
  go_enter Tryz.func71, Tryz.ntmps71
  go_wp2_with (first
    | (go_at_call 69; refine HV.out.mono ?_; rintro e w' ⟨rfl, rfl⟩)
    | (go_at_call 133; refine HF.out.mono ?_; rintro e w2 ⟨rfl, hb2⟩))
  go_ret2
  exact ⟨rfl, hb0.trans (hb2.mono hb0.size)⟩
set_option maxHeartbeats 1000000 in
theorem get_cons_cons (hp : Nat) (x : Wd) (v : Value) (w : World) (V : ∀ w', Below w.heap.size w w' → Calls Tryz.prog 69 #[ptr hp] w' fun e w'' => e = .returned (.bool true) ∧ w' = w'') (Fi : Reads w 133 #[ptr hp, wd x] (.iface 93 v)) :
    Calls Tryz.prog 71 #[ptr hp, wd x] w fun e w' => e = .returned (.tuple #[v, .int .i64 0]) ∧ Below w.heap.size w w' := by
  have hb0 : Below w.heap.size w (w.alloc (.cells #[.int .i64 x.1, .int .i64 x.2] 28)) := (Below.refl _ _).alloc (Nat.le_refl _) _
  have HV := Lib.hid (V _ hb0)
  have HF := Lib.hid (Fi.out _ hb0)
  have a1 := as_cons_cons
  clear V Fi
  go_enter Tryz.func71, Tryz.ntmps71
  go_wp2_with (first
    | (go_at_call 69; refine HV.out.mono ?_; rintro e w' ⟨rfl, rfl⟩)
    | (go_at_call 133; refine HF.out.mono ?_; rintro e w2 ⟨rfl, hb2⟩))
  go_ret2
  exact ⟨rfl, hb0.trans (hb2.mono hb0.size)⟩
set_option maxHeartbeats 1000000 in
theorem get_cons_text (hp : Nat) (x : Wd) (v : Value) (w : World) (V : ∀ w', Below w.heap.size w w' → Calls Tryz.prog 69 #[ptr hp] w' fun e w'' => e = .returned (.bool true) ∧ w' = w'') (Fi : Reads w 133 #[ptr hp, wd x] (.iface 110 v)) :
    Calls Tryz.prog 71 #[ptr hp, wd x] w fun e w' => e = .returned (.tuple #[.pointer none, .int .i64 6]) ∧ Below w.heap.size w w' := by
  have hb0 : Below w.heap.size w (w.alloc (.cells #[.int .i64 x.1, .int .i64 x.2] 28)) := (Below.refl _ _).alloc (Nat.le_refl _) _
  have HV := Lib.hid (V _ hb0)
  have HF := Lib.hid (Fi.out _ hb0)
  have a1 := as_text_cons
  clear V Fi
  go_enter Tryz.func71, Tryz.ntmps71
  go_wp2_with (first
    | (go_at_call 69; refine HV.out.mono ?_; rintro e w' ⟨rfl, rfl⟩)
    | (go_at_call 133; refine HF.out.mono ?_; rintro e w2 ⟨rfl, hb2⟩))
  go_ret2
  exact ⟨rfl, hb0.trans (hb2.mono hb0.size)⟩
set_option maxHeartbeats 1000000 in
theorem get_cons_vector (hp : Nat) (x : Wd) (v : Value) (w : World) (V : ∀ w', Below w.heap.size w w' → Calls Tryz.prog 69 #[ptr hp] w' fun e w'' => e = .returned (.bool true) ∧ w' = w'') (Fi : Reads w 133 #[ptr hp, wd x] (.iface 189 v)) :
    Calls Tryz.prog 71 #[ptr hp, wd x] w fun e w' => e = .returned (.tuple #[.pointer none, .int .i64 6]) ∧ Below w.heap.size w w' := by
  have hb0 : Below w.heap.size w (w.alloc (.cells #[.int .i64 x.1, .int .i64 x.2] 28)) := (Below.refl _ _).alloc (Nat.le_refl _) _
  have HV := Lib.hid (V _ hb0)
  have HF := Lib.hid (Fi.out _ hb0)
  have a1 := as_vector_cons
  clear V Fi
  go_enter Tryz.func71, Tryz.ntmps71
  go_wp2_with (first
    | (go_at_call 69; refine HV.out.mono ?_; rintro e w' ⟨rfl, rfl⟩)
    | (go_at_call 133; refine HF.out.mono ?_; rintro e w2 ⟨rfl, hb2⟩))
  go_ret2
  exact ⟨rfl, hb0.trans (hb2.mono hb0.size)⟩
set_option maxHeartbeats 1000000 in
theorem get_cons_code (hp : Nat) (x : Wd) (v : Value) (w : World) (V : ∀ w', Below w.heap.size w w' → Calls Tryz.prog 69 #[ptr hp] w' fun e w'' => e = .returned (.bool true) ∧ w' = w'') (Fi : Reads w 133 #[ptr hp, wd x] (.iface 190 v)) :
    Calls Tryz.prog 71 #[ptr hp, wd x] w fun e w' => e = .returned (.tuple #[.pointer none, .int .i64 6]) ∧ Below w.heap.size w w' := by
  have hb0 : Below w.heap.size w (w.alloc (.cells #[.int .i64 x.1, .int .i64 x.2] 28)) := (Below.refl _ _).alloc (Nat.le_refl _) _
  have HV := Lib.hid (V _ hb0)
  have HF := Lib.hid (Fi.out _ hb0)
  have a1 := as_code_cons
  clear V Fi
  go_enter Tryz.func71, Tryz.ntmps71
  go_wp2_with (first
    | (go_at_call 69; refine HV.out.mono ?_; rintro e w' ⟨rfl, rfl⟩)
    | (go_at_call 133; refine HF.out.mono ?_; rintro e w2 ⟨rfl, hb2⟩))
  go_ret2
  exact ⟨rfl, hb0.trans (hb2.mono hb0.size)⟩
theorem get_text_null (x : Wd) (w : World) : Calls Tryz.prog 77 #[.pointer none, wd x] w fun e w' => e = .returned (.tuple #[.pointer none, .int .i64 1]) ∧ Below w.heap.size w w' := by
  have HV := Lib.hid valid_nil
  go_enter Tryz.func77, Tryz.ntmps77
  go_wp2_with (go_at_call 69; refine (HV.out _).mono ?_; rintro e w' ⟨rfl, rfl⟩)
  go_ret2
  exact ⟨rfl, (Below.refl _ _).alloc (Nat.le_refl _) _⟩
set_option maxHeartbeats 1000000 in
theorem get_text_none (hp : Nat) (x : Wd) (w : World) (V : ∀ w', Below w.heap.size w w' → Calls Tryz.prog 69 #[ptr hp] w' fun e w'' => e = .returned (.bool true) ∧ w' = w'') (Fi : Reads w 133 #[ptr hp, wd x] .nilIface) :
    Calls Tryz.prog 77 #[ptr hp, wd x] w fun e w' => e = .returned (.tuple #[.pointer none, .int .i64 6]) ∧ Below w.heap.size w w' := by
  have hb0 : Below w.heap.size w (w.alloc (.cells #[.int .i64 x.1, .int .i64 x.2] 28)) := (Below.refl _ _).alloc (Nat.le_refl _) _
  have HV := Lib.hid (V _ hb0)
  have HF := Lib.hid (Fi.out _ hb0)
  have a1 := as_nil_text
  clear V Fi
  go_enter Tryz.func77, Tryz.ntmps77
  go_wp2_with (first
    | (go_at_call 69; refine HV.out.mono ?_; rintro e w' ⟨rfl, rfl⟩)
    | (go_at_call 133; refine HF.out.mono ?_; rintro e w2 ⟨rfl, hb2⟩))
  go_ret2
  exact ⟨rfl, hb0.trans (hb2.mono hb0.size)⟩
set_option maxHeartbeats 1000000 in
theorem get_text_cons (hp : Nat) (x : Wd) (v : Value) (w : World) (V : ∀ w', Below w.heap.size w w' → Calls Tryz.prog 69 #[ptr hp] w' fun e w'' => e = .returned (.bool true) ∧ w' = w'') (Fi : Reads w 133 #[ptr hp, wd x] (.iface 93 v)) :
    Calls Tryz.prog 77 #[ptr hp, wd x] w fun e w' => e = .returned (.tuple #[.pointer none, .int .i64 6]) ∧ Below w.heap.size w w' := by
  have hb0 : Below w.heap.size w (w.alloc (.cells #[.int .i64 x.1, .int .i64 x.2] 28)) := (Below.refl _ _).alloc (Nat.le_refl _) _
  have HV := Lib.hid (V _ hb0)
  have HF := Lib.hid (Fi.out _ hb0)
  have a1 := as_cons_text
  clear V Fi
  go_enter Tryz.func77, Tryz.ntmps77
  go_wp2_with (first
    | (go_at_call 69; refine HV.out.mono ?_; rintro e w' ⟨rfl, rfl⟩)
    | (go_at_call 133; refine HF.out.mono ?_; rintro e w2 ⟨rfl, hb2⟩))
  go_ret2
  exact ⟨rfl, hb0.trans (hb2.mono hb0.size)⟩
set_option maxHeartbeats 1000000 in
theorem get_text_text (hp : Nat) (x : Wd) (v : Value) (w : World) (V : ∀ w', Below w.heap.size w w' → Calls Tryz.prog 69 #[ptr hp] w' fun e w'' => e = .returned (.bool true) ∧ w' = w'') (Fi : Reads w 133 #[ptr hp, wd x] (.iface 110 v)) :
    Calls Tryz.prog 77 #[ptr hp, wd x] w fun e w' => e = .returned (.tuple #[v, .int .i64 0]) ∧ Below w.heap.size w w' := by
  have hb0 : Below w.heap.size w (w.alloc (.cells #[.int .i64 x.1, .int .i64 x.2] 28)) := (Below.refl _ _).alloc (Nat.le_refl _) _
  have HV := Lib.hid (V _ hb0)
  have HF := Lib.hid (Fi.out _ hb0)
  have a1 := as_text_text
  clear V Fi
  go_enter Tryz.func77, Tryz.ntmps77
  go_wp2_with (first
    | (go_at_call 69; refine HV.out.mono ?_; rintro e w' ⟨rfl, rfl⟩)
    | (go_at_call 133; refine HF.out.mono ?_; rintro e w2 ⟨rfl, hb2⟩))
  go_ret2
  exact ⟨rfl, hb0.trans (hb2.mono hb0.size)⟩
set_option maxHeartbeats 1000000 in
theorem get_text_vector (hp : Nat) (x : Wd) (v : Value) (w : World) (V : ∀ w', Below w.heap.size w w' → Calls Tryz.prog 69 #[ptr hp] w' fun e w'' => e = .returned (.bool true) ∧ w' = w'') (Fi : Reads w 133 #[ptr hp, wd x] (.iface 189 v)) :
    Calls Tryz.prog 77 #[ptr hp, wd x] w fun e w' => e = .returned (.tuple #[.pointer none, .int .i64 6]) ∧ Below w.heap.size w w' := by
  have hb0 : Below w.heap.size w (w.alloc (.cells #[.int .i64 x.1, .int .i64 x.2] 28)) := (Below.refl _ _).alloc (Nat.le_refl _) _
  have HV := Lib.hid (V _ hb0)
  have HF := Lib.hid (Fi.out _ hb0)
  have a1 := as_vector_text
  clear V Fi
  go_enter Tryz.func77, Tryz.ntmps77
  go_wp2_with (first
    | (go_at_call 69; refine HV.out.mono ?_; rintro e w' ⟨rfl, rfl⟩)
    | (go_at_call 133; refine HF.out.mono ?_; rintro e w2 ⟨rfl, hb2⟩))
  go_ret2
  exact ⟨rfl, hb0.trans (hb2.mono hb0.size)⟩
set_option maxHeartbeats 1000000 in
theorem get_text_code (hp : Nat) (x : Wd) (v : Value) (w : World) (V : ∀ w', Below w.heap.size w w' → Calls Tryz.prog 69 #[ptr hp] w' fun e w'' => e = .returned (.bool true) ∧ w' = w'') (Fi : Reads w 133 #[ptr hp, wd x] (.iface 190 v)) :
    Calls Tryz.prog 77 #[ptr hp, wd x] w fun e w' => e = .returned (.tuple #[.pointer none, .int .i64 6]) ∧ Below w.heap.size w w' := by
  have hb0 : Below w.heap.size w (w.alloc (.cells #[.int .i64 x.1, .int .i64 x.2] 28)) := (Below.refl _ _).alloc (Nat.le_refl _) _
  have HV := Lib.hid (V _ hb0)
  have HF := Lib.hid (Fi.out _ hb0)
  have a1 := as_code_text
  clear V Fi
  go_enter Tryz.func77, Tryz.ntmps77
  go_wp2_with (first
    | (go_at_call 69; refine HV.out.mono ?_; rintro e w' ⟨rfl, rfl⟩)
    | (go_at_call 133; refine HF.out.mono ?_; rintro e w2 ⟨rfl, hb2⟩))
  go_ret2
  exact ⟨rfl, hb0.trans (hb2.mono hb0.size)⟩
theorem get_vector_null (x : Wd) (w : World) : Calls Tryz.prog 230 #[.pointer none, wd x] w fun e w' => e = .returned (.tuple #[.pointer none, .int .i64 1]) ∧ Below w.heap.size w w' := by
  have HV := Lib.hid valid_nil
  go_enter Tryz.func230, Tryz.ntmps230
  go_wp2_with (go_at_call 69; refine (HV.out _).mono ?_; rintro e w' ⟨rfl, rfl⟩)
  go_ret2
  exact ⟨rfl, (Below.refl _ _).alloc (Nat.le_refl _) _⟩
set_option maxHeartbeats 1000000 in
theorem get_vector_none (hp : Nat) (x : Wd) (w : World) (V : ∀ w', Below w.heap.size w w' → Calls Tryz.prog 69 #[ptr hp] w' fun e w'' => e = .returned (.bool true) ∧ w' = w'') (Fi : Reads w 133 #[ptr hp, wd x] .nilIface) :
    Calls Tryz.prog 230 #[ptr hp, wd x] w fun e w' => e = .returned (.tuple #[.pointer none, .int .i64 6]) ∧ Below w.heap.size w w' := by
  have hb0 : Below w.heap.size w (w.alloc (.cells #[.int .i64 x.1, .int .i64 x.2] 28)) := (Below.refl _ _).alloc (Nat.le_refl _) _
  have HV := Lib.hid (V _ hb0)
  have HF := Lib.hid (Fi.out _ hb0)
  have a1 := as_nil_vector
  clear V Fi
  go_enter Tryz.func230, Tryz.ntmps230
  go_wp2_with (first
    | (go_at_call 69; refine HV.out.mono ?_; rintro e w' ⟨rfl, rfl⟩)
    | (go_at_call 133; refine HF.out.mono ?_; rintro e w2 ⟨rfl, hb2⟩))
  go_ret2
  exact ⟨rfl, hb0.trans (hb2.mono hb0.size)⟩
set_option maxHeartbeats 1000000 in
theorem get_vector_cons (hp : Nat) (x : Wd) (v : Value) (w : World) (V : ∀ w', Below w.heap.size w w' → Calls Tryz.prog 69 #[ptr hp] w' fun e w'' => e = .returned (.bool true) ∧ w' = w'') (Fi : Reads w 133 #[ptr hp, wd x] (.iface 93 v)) :
    Calls Tryz.prog 230 #[ptr hp, wd x] w fun e w' => e = .returned (.tuple #[.pointer none, .int .i64 6]) ∧ Below w.heap.size w w' := by
  have hb0 : Below w.heap.size w (w.alloc (.cells #[.int .i64 x.1, .int .i64 x.2] 28)) := (Below.refl _ _).alloc (Nat.le_refl _) _
  have HV := Lib.hid (V _ hb0)
  have HF := Lib.hid (Fi.out _ hb0)
  have a1 := as_cons_vector
  clear V Fi
  go_enter Tryz.func230, Tryz.ntmps230
  go_wp2_with (first
    | (go_at_call 69; refine HV.out.mono ?_; rintro e w' ⟨rfl, rfl⟩)
    | (go_at_call 133; refine HF.out.mono ?_; rintro e w2 ⟨rfl, hb2⟩))
  go_ret2
  exact ⟨rfl, hb0.trans (hb2.mono hb0.size)⟩
set_option maxHeartbeats 1000000 in
theorem get_vector_text (hp : Nat) (x : Wd) (v : Value) (w : World) (V : ∀ w', Below w.heap.size w w' → Calls Tryz.prog 69 #[ptr hp] w' fun e w'' => e = .returned (.bool true) ∧ w' = w'') (Fi : Reads w 133 #[ptr hp, wd x] (.iface 110 v)) :
    Calls Tryz.prog 230 #[ptr hp, wd x] w fun e w' => e = .returned (.tuple #[.pointer none, .int .i64 6]) ∧ Below w.heap.size w w' := by
  have hb0 : Below w.heap.size w (w.alloc (.cells #[.int .i64 x.1, .int .i64 x.2] 28)) := (Below.refl _ _).alloc (Nat.le_refl _) _
  have HV := Lib.hid (V _ hb0)
  have HF := Lib.hid (Fi.out _ hb0)
  have a1 := as_text_vector
  clear V Fi
  go_enter Tryz.func230, Tryz.ntmps230
  go_wp2_with (first
    | (go_at_call 69; refine HV.out.mono ?_; rintro e w' ⟨rfl, rfl⟩)
    | (go_at_call 133; refine HF.out.mono ?_; rintro e w2 ⟨rfl, hb2⟩))
  go_ret2
  exact ⟨rfl, hb0.trans (hb2.mono hb0.size)⟩
set_option maxHeartbeats 1000000 in
theorem get_vector_vector (hp : Nat) (x : Wd) (v : Value) (w : World) (V : ∀ w', Below w.heap.size w w' → Calls Tryz.prog 69 #[ptr hp] w' fun e w'' => e = .returned (.bool true) ∧ w' = w'') (Fi : Reads w 133 #[ptr hp, wd x] (.iface 189 v)) :
    Calls Tryz.prog 230 #[ptr hp, wd x] w fun e w' => e = .returned (.tuple #[v, .int .i64 0]) ∧ Below w.heap.size w w' := by
  have hb0 : Below w.heap.size w (w.alloc (.cells #[.int .i64 x.1, .int .i64 x.2] 28)) := (Below.refl _ _).alloc (Nat.le_refl _) _
  have HV := Lib.hid (V _ hb0)
  have HF := Lib.hid (Fi.out _ hb0)
  have a1 := as_vector_vector
  clear V Fi
  go_enter Tryz.func230, Tryz.ntmps230
  go_wp2_with (first
    | (go_at_call 69; refine HV.out.mono ?_; rintro e w' ⟨rfl, rfl⟩)
    | (go_at_call 133; refine HF.out.mono ?_; rintro e w2 ⟨rfl, hb2⟩))
  go_ret2
  exact ⟨rfl, hb0.trans (hb2.mono hb0.size)⟩
set_option maxHeartbeats 1000000 in
theorem get_vector_code (hp : Nat) (x : Wd) (v : Value) (w : World) (V : ∀ w', Below w.heap.size w w' → Calls Tryz.prog 69 #[ptr hp] w' fun e w'' => e = .returned (.bool true) ∧ w' = w'') (Fi : Reads w 133 #[ptr hp, wd x] (.iface 190 v)) :
    Calls Tryz.prog 230 #[ptr hp, wd x] w fun e w' => e = .returned (.tuple #[.pointer none, .int .i64 6]) ∧ Below w.heap.size w w' := by
  have hb0 : Below w.heap.size w (w.alloc (.cells #[.int .i64 x.1, .int .i64 x.2] 28)) := (Below.refl _ _).alloc (Nat.le_refl _) _
  have HV := Lib.hid (V _ hb0)
  have HF := Lib.hid (Fi.out _ hb0)
  have a1 := as_code_vector
  clear V Fi
  go_enter Tryz.func230, Tryz.ntmps230
  go_wp2_with (first
    | (go_at_call 69; refine HV.out.mono ?_; rintro e w' ⟨rfl, rfl⟩)
    | (go_at_call 133; refine HF.out.mono ?_; rintro e w2 ⟨rfl, hb2⟩))
  go_ret2
  exact ⟨rfl, hb0.trans (hb2.mono hb0.size)⟩
theorem valid_any {w : World} {base hp lim : Nat} {ob : Obs} {lab : Nat → Option Lab} {P : Parts} (h : HeapIs w base hp lim ob lab P) :
    ∀ w', Below w.heap.size w w' → Calls Tryz.prog 69 #[ptr hp] w' fun e w'' => e = .returned (.bool true) ∧ w' = w'' :=
  fun w' hb => valid_core hp lim w' ((h.below hb).blk.cell 0 _ rfl) h.lim1

/-- get at *cons: what it returns, by the object that the word refers to. -/
theorem get_cons_any {w : World} {base hp lim : Nat} {ob : Obs} {lab : Nat → Option Lab} {P : Parts} (h : HeapIs w base hp lim ob lab P) (x : Wd) :
    ((∃ g, ObAt w lab x.2.toNat (.iface 93 (ptr g)) (findO ob x) ∧ P.vals[x.2.toNat]? = some (.iface 93 (ptr g)) ∧ Reads w 71 #[ptr hp, wd x] (.tuple #[ptr g, .int .i64 0])) ∧ (findO ob x).map Ob.kind = some 2) ∨
    (Reads w 71 #[ptr hp, wd x] (.tuple #[.pointer none, .int .i64 6]) ∧ (findO ob x).map Ob.kind ≠ some 2) := by
  obtain ⟨v, hv, hvs, hr⟩ := find_any h x
  have hV := valid_any h
  match hf : findO ob x with
  | none =>
    rw [hf] at hv
    obtain rfl := hv
    exact .inr ⟨fun w' hb => get_cons_none hp x w' (fun w2 hb2 => hV w2 (hb.trans (hb2.mono hb.size))) (hr.below hb), by simp⟩
  | some (.cons a d) =>
    rw [hf] at hv
    have hv0 := hv
    obtain ⟨g, rfl, hg⟩ := hv
    exact .inl ⟨⟨g, hv0, hvs (by rw [hf]; simp), fun w' hb => get_cons_cons hp x _ w' (fun w2 hb2 => hV w2 (hb.trans (hb2.mono hb.size))) (hr.below hb)⟩, rfl⟩
  | some (.text s k) =>
    rw [hf] at hv
    obtain ⟨g, rfl, hg⟩ := hv
    exact .inr ⟨fun w' hb => get_cons_text hp x _ w' (fun w2 hb2 => hV w2 (hb.trans (hb2.mono hb.size))) (hr.below hb), by simp [Ob.kind]⟩
  | some (.vec l) =>
    rw [hf] at hv
    obtain ⟨g, r, rfl, hg⟩ := hv
    exact .inr ⟨fun w' hb => get_cons_vector hp x _ w' (fun w2 hb2 => hV w2 (hb.trans (hb2.mono hb.size))) (hr.below hb), by simp [Ob.kind]⟩
  | some (.code p q z b l) =>
    rw [hf] at hv
    obtain ⟨g, rb, rl, rfl, hg⟩ := hv
    exact .inr ⟨fun w' hb => get_cons_code hp x _ w' (fun w2 hb2 => hV w2 (hb.trans (hb2.mono hb.size))) (hr.below hb), by simp [Ob.kind]⟩
/-- get at *text: what it returns, by the object that the word refers to. -/
theorem get_text_any {w : World} {base hp lim : Nat} {ob : Obs} {lab : Nat → Option Lab} {P : Parts} (h : HeapIs w base hp lim ob lab P) (x : Wd) :
    ((∃ g, ObAt w lab x.2.toNat (.iface 110 (ptr g)) (findO ob x) ∧ P.vals[x.2.toNat]? = some (.iface 110 (ptr g)) ∧ Reads w 77 #[ptr hp, wd x] (.tuple #[ptr g, .int .i64 0])) ∧ (findO ob x).map Ob.kind = some 3) ∨
    (Reads w 77 #[ptr hp, wd x] (.tuple #[.pointer none, .int .i64 6]) ∧ (findO ob x).map Ob.kind ≠ some 3) := by
  obtain ⟨v, hv, hvs, hr⟩ := find_any h x
  have hV := valid_any h
  match hf : findO ob x with
  | none =>
    rw [hf] at hv
    obtain rfl := hv
    exact .inr ⟨fun w' hb => get_text_none hp x w' (fun w2 hb2 => hV w2 (hb.trans (hb2.mono hb.size))) (hr.below hb), by simp⟩
  | some (.cons a d) =>
    rw [hf] at hv
    obtain ⟨g, rfl, hg⟩ := hv
    exact .inr ⟨fun w' hb => get_text_cons hp x _ w' (fun w2 hb2 => hV w2 (hb.trans (hb2.mono hb.size))) (hr.below hb), by simp [Ob.kind]⟩
  | some (.text s k) =>
    rw [hf] at hv
    have hv0 := hv
    obtain ⟨g, rfl, hg⟩ := hv
    exact .inl ⟨⟨g, hv0, hvs (by rw [hf]; simp), fun w' hb => get_text_text hp x _ w' (fun w2 hb2 => hV w2 (hb.trans (hb2.mono hb.size))) (hr.below hb)⟩, rfl⟩
  | some (.vec l) =>
    rw [hf] at hv
    obtain ⟨g, r, rfl, hg⟩ := hv
    exact .inr ⟨fun w' hb => get_text_vector hp x _ w' (fun w2 hb2 => hV w2 (hb.trans (hb2.mono hb.size))) (hr.below hb), by simp [Ob.kind]⟩
  | some (.code p q z b l) =>
    rw [hf] at hv
    obtain ⟨g, rb, rl, rfl, hg⟩ := hv
    exact .inr ⟨fun w' hb => get_text_code hp x _ w' (fun w2 hb2 => hV w2 (hb.trans (hb2.mono hb.size))) (hr.below hb), by simp [Ob.kind]⟩
/-- get at *vector: what it returns, by the object that the word refers to. -/
theorem get_vector_any {w : World} {base hp lim : Nat} {ob : Obs} {lab : Nat → Option Lab} {P : Parts} (h : HeapIs w base hp lim ob lab P) (x : Wd) :
    ((∃ g, ObAt w lab x.2.toNat (.iface 189 (ptr g)) (findO ob x) ∧ P.vals[x.2.toNat]? = some (.iface 189 (ptr g)) ∧ Reads w 230 #[ptr hp, wd x] (.tuple #[ptr g, .int .i64 0])) ∧ (findO ob x).map Ob.kind = some 4) ∨
    (Reads w 230 #[ptr hp, wd x] (.tuple #[.pointer none, .int .i64 6]) ∧ (findO ob x).map Ob.kind ≠ some 4) := by
  obtain ⟨v, hv, hvs, hr⟩ := find_any h x
  have hV := valid_any h
  match hf : findO ob x with
  | none =>
    rw [hf] at hv
    obtain rfl := hv
    exact .inr ⟨fun w' hb => get_vector_none hp x w' (fun w2 hb2 => hV w2 (hb.trans (hb2.mono hb.size))) (hr.below hb), by simp⟩
  | some (.cons a d) =>
    rw [hf] at hv
    obtain ⟨g, rfl, hg⟩ := hv
    exact .inr ⟨fun w' hb => get_vector_cons hp x _ w' (fun w2 hb2 => hV w2 (hb.trans (hb2.mono hb.size))) (hr.below hb), by simp [Ob.kind]⟩
  | some (.text s k) =>
    rw [hf] at hv
    obtain ⟨g, rfl, hg⟩ := hv
    exact .inr ⟨fun w' hb => get_vector_text hp x _ w' (fun w2 hb2 => hV w2 (hb.trans (hb2.mono hb.size))) (hr.below hb), by simp [Ob.kind]⟩
  | some (.vec l) =>
    rw [hf] at hv
    have hv0 := hv
    obtain ⟨g, r, rfl, hg⟩ := hv
    exact .inl ⟨⟨g, hv0, hvs (by rw [hf]; simp), fun w' hb => get_vector_vector hp x _ w' (fun w2 hb2 => hV w2 (hb.trans (hb2.mono hb.size))) (hr.below hb)⟩, rfl⟩
  | some (.code p q z b l) =>
    rw [hf] at hv
    obtain ⟨g, rb, rl, rfl, hg⟩ := hv
    exact .inr ⟨fun w' hb => get_vector_code hp x _ w' (fun w2 hb2 => hV w2 (hb.trans (hb2.mono hb.size))) (hr.below hb), by simp [Ob.kind]⟩
end Go.Proofs.YtlibdhnlmekmhaaGreatDoor.Get
