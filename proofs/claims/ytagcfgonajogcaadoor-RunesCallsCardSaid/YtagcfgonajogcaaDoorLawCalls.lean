/- RunesCalls: the walk of the law. -/
import Derived.Test.YtagcfgonajogcaaDoorRefCut
import Derived.Test.YtagcfgonajogcaaDoorLawCuts2
namespace Go.Proofs.YtagcfgonajogcaaDoor.LawCalls
open Go.RowKit Go.Shelf Go.Lib
open Go.Proofs.YtagcfgonajogcaaDoor.Utf Go.Proofs.YtagcfgonajogcaaDoor.Strs Go.Proofs.YtagcfgonajogcaaDoor.Cuts Go.Proofs.YtagcfgonajogcaaDoor.Lst Go.Proofs.YtagcfgonajogcaaDoor.Chars Go.Proofs.YtagcfgonajogcaaDoor.Give Go.Proofs.YtagcfgonajogcaaDoor.Txt Go.Proofs.YtagcfgonajogcaaDoor.LawBack Go.Proofs.YtagcfgonajogcaaDoor.RefStrs

/-- A contract behind a world that has only grown, told of the world that it meets. -/
def Gv (W : World) (f : FuncId) (a : Array Value) (v : Value) : Prop := ∀ w, Below W.heap.size W w → Calls Tryd.prog f a w fun e w' => e = .returned v ∧ Below w.heap.size w w'
/-- The same for a list and a code. -/
def GvL (W : World) (f : FuncId) (a : Array Value) (g : Int) (R : List Int) : Prop := ∀ w, Below W.heap.size W w → Calls Tryd.prog f a w fun e w' => (∃ v, e = .returned (.tuple #[v, .int .i64 g]) ∧ IntSl w' v R) ∧ Below w.heap.size w w'
/-- The same for a list. -/
def GvO (W : World) (f : FuncId) (a : Array Value) (R : List Int) : Prop := ∀ w, Below W.heap.size W w → Calls Tryd.prog f a w fun e w' => (∃ v, e = .returned v ∧ IntSl w' v R) ∧ Below w.heap.size w w'
/-- The same of whatever slice reads as a list. -/
def GvT (W : World) (f : FuncId) (l : List Int) (x : Value) : Prop := ∀ w v, Below W.heap.size W w → IntSl w v l → Calls Tryd.prog f #[v] w fun e w' => e = .returned x ∧ Below w.heap.size w w'
theorem Gv.out {W : World} {f : FuncId} {a : Array Value} {v : Value} (h : Gv W f a v) (w : World) (hb : Below W.heap.size W w) : Calls Tryd.prog f a w fun e w' => e = .returned v ∧ Below w.heap.size w w' := h w hb
theorem GvL.out {W : World} {f : FuncId} {a : Array Value} {g : Int} {R : List Int} (h : GvL W f a g R) (w : World) (hb : Below W.heap.size W w) : Calls Tryd.prog f a w fun e w' => (∃ v, e = .returned (.tuple #[v, .int .i64 g]) ∧ IntSl w' v R) ∧ Below w.heap.size w w' := h w hb
theorem GvO.out {W : World} {f : FuncId} {a : Array Value} {R : List Int} (h : GvO W f a R) (w : World) (hb : Below W.heap.size W w) : Calls Tryd.prog f a w fun e w' => (∃ v, e = .returned v ∧ IntSl w' v R) ∧ Below w.heap.size w w' := h w hb
theorem GvT.out {W : World} {f : FuncId} {l : List Int} {x : Value} (h : GvT W f l x) (w : World) (v : Value) (hb : Below W.heap.size W w) (hi : IntSl w v l) : Calls Tryd.prog f #[v] w fun e w' => e = .returned x ∧ Below w.heap.size w w' := h w v hb hi
theorem gv_tab {W : World} {f : FuncId} {a : Array Value} {v : Value} (hT : Tabs W) (h : ∀ w, Tabs w → Calls Tryd.prog f a w fun e w' => e = .returned v ∧ Below w.heap.size w w') : Gv W f a v := fun w hb => h w (hT.below hb)
theorem gv {W : World} {f : FuncId} {a : Array Value} {v : Value} (h : ∀ w, Calls Tryd.prog f a w fun e w' => e = .returned v ∧ Below w.heap.size w w') : Gv W f a v := fun w _ => h w

set_option maxRecDepth 100000 in
set_option maxHeartbeats 1000000 in
theorem long_s (s : ByteArray) (i f t : Int) (v : Value) (w : World) (hs : s.size ≤ maxLen) (h : 2000 < s.size) (L : Gives w 10 #[] (.bool true)) :
    Calls Tryd.prog 4 #[.string s, .int .i64 i, .int .i64 f, .int .i64 t, v] w fun e w' => e = .returned (.bool true) ∧ Below w.heap.size w w' := by
  unfold maxLen at hs
  have hz : (2000 : Int) < s.size := by omega
  have hb0 := Below.refl w.heap.size w
  go_enter Tryd.func4, Tryd.ntmps4
  go_wp2_with (fail)
  refine (L.out _ hb0).mono ?_
  rintro e w1 ⟨rfl, hb1⟩
  clear hb0
  go_wp2_with (fail)
  go_ret
  exact ⟨rfl, hb1⟩

set_option maxRecDepth 100000 in
set_option maxHeartbeats 1000000 in
theorem long_l (s : ByteArray) (i f t : Int) (A : Option Addr) (n cap : Nat) (w : World) (hs : s.size ≤ 2000) (h : 2000 < n) (hm : n ≤ 9223372036854775807) (L : Gives w 10 #[] (.bool true)) :
    Calls Tryd.prog 4 #[.string s, .int .i64 i, .int .i64 f, .int .i64 t, .slice A n cap] w fun e w' => e = .returned (.bool true) ∧ Below w.heap.size w w' := by
  have hz : ¬ (2000 : Int) < s.size := by omega
  have hz2 : (2000 : Int) < n := by omega
  have hb0 := Below.refl w.heap.size w
  go_enter Tryd.func4, Tryd.ntmps4
  go_wp2_with (fail)
  refine (L.out _ hb0).mono ?_
  rintro e w1 ⟨rfl, hb1⟩
  clear hb0
  go_wp2_with (fail)
  go_ret
  exact ⟨rfl, hb1⟩

set_option maxRecDepth 100000 in
set_option maxHeartbeats 4000000 in
theorem core (s X T : ByteArray) (i f t c ec g tc N : Int) (b V : Bool) (A : Option Addr) (n cap : Nat) (l R : List Int) (w : World) (hs : s.size ≤ 2000) (hn : n ≤ 2000) (HR : Hid (R.length < 4611686018427387904))
    (L : Gives w 10 #[] (.bool true))
    (A1 : Gv w 14 #[.string s, .int .i64 i] (.tuple #[.int .i64 c, .bool b])) (A2 : Gv w 22 #[.string s, .int .i64 i] (.tuple #[.int .i64 c, .bool b]))
    (C1 : Gv w 11 #[.string s, .int .i64 f, .int .i64 t] (.tuple #[.string X, .int .i64 ec])) (C2 : Gv w 23 #[.string s, .int .i64 f, .int .i64 t] (.tuple #[.string X, .int .i64 ec]))
    (L1 : GvL w 13 #[.string s] g R) (L2 : GvL w 24 #[.string s] g R)
    (O : GvO w 25 #[.slice A n cap] l)
    (T1 : GvT w 12 l (.tuple #[.string T, .int .i64 tc])) (T2 : Gv w 26 #[.slice A n cap] (.tuple #[.string T, .int .i64 tc]))
    (V1 : Gv w 20 #[.string s] (.bool V)) (V2 : Gv w 27 #[.string s] (.bool V))
    (N1 : Gv w 28 #[.string s] (.int .i64 N)) (N2 : Gv w 29 #[.string s] (.int .i64 N)) :
    Calls Tryd.prog 4 #[.string s, .int .i64 i, .int .i64 f, .int .i64 t, .slice A n cap] w fun e w' => e = .returned (.bool true) ∧ Below w.heap.size w w' := by
  have hz : ¬ (2000 : Int) < s.size := by omega
  have hz2 : ¬ (2000 : Int) < n := by omega
  have hb0 := Below.refl w.heap.size w
  go_enter Tryd.func4, Tryd.ntmps4
  go_wp2_with (fail)
  refine (L.out _ hb0).mono ?_
  rintro e w1 ⟨rfl, hb1⟩
  clear hb0 L
  go_wp2_with (fail)
  refine (A1.out _ hb1).mono ?_
  rintro e w2 ⟨rfl, h2⟩
  have hb2 := hb1.trans (h2.mono hb1.size)
  clear A1 hb1 h2
  go_wp2_with (fail)
  refine (A2.out _ hb2).mono ?_
  rintro e w3 ⟨rfl, h3⟩
  have hb3 := hb2.trans (h3.mono hb2.size)
  clear A2 hb2 h3
  go_wp2_with (fail)
  refine (C1.out _ hb3).mono ?_
  rintro e w4 ⟨rfl, h4⟩
  have hb4 := hb3.trans (h4.mono hb3.size)
  clear C1 hb3 h4
  go_wp2_with (fail)
  refine (C2.out _ hb4).mono ?_
  rintro e w5 ⟨rfl, h5⟩
  have hb5 := hb4.trans (h5.mono hb4.size)
  clear C2 hb4 h5
  go_wp2_with (fail)
  refine (L1.out _ hb5).mono ?_
  rintro e w6 ⟨⟨p, rfl, P⟩, h6⟩
  have hb6 := hb5.trans (h6.mono hb5.size)
  have P6 := Lib.hid P
  clear L1 hb5 h6 P
  go_wp2_with (fail)
  refine (L2.out _ hb6).mono ?_
  rintro e w7 ⟨⟨q, rfl, Q⟩, h7⟩
  have hb7 := hb6.trans (h7.mono hb6.size)
  have Q7 := Lib.hid Q
  have P7 := Lib.hid (P6.out.below h7)
  clear L2 hb6 h7 Q P6
  go_wp2_with (fail)
  refine (O.out _ hb7).mono ?_
  rintro e w8 ⟨⟨o, rfl, U⟩, h8⟩
  have hb8 := hb7.trans (h8.mono hb7.size)
  have U8 := Lib.hid U
  have P8 := Lib.hid (P7.out.below h8)
  have Q8 := Lib.hid (Q7.out.below h8)
  clear O hb7 h8 U P7 Q7
  go_wp2_with (fail)
  refine (T1.out _ o hb8 U8.out).mono ?_
  rintro e w9 ⟨rfl, h9⟩
  have hb9 := hb8.trans (h9.mono hb8.size)
  have P9 := Lib.hid (P8.out.below h9)
  have Q9 := Lib.hid (Q8.out.below h9)
  clear T1 hb8 h9 P8 Q8 U8
  go_wp2_with (fail)
  refine (T2.out _ hb9).mono ?_
  rintro e w10 ⟨rfl, h10⟩
  have hb10 := hb9.trans (h10.mono hb9.size)
  have P10 := Lib.hid (P9.out.below h10)
  have Q10 := Lib.hid (Q9.out.below h10)
  clear T2 hb9 h10 P9 Q9
  go_wp2_with (fail)
  refine (V1.out _ hb10).mono ?_
  rintro e w11 ⟨rfl, h11⟩
  have hb11 := hb10.trans (h11.mono hb10.size)
  have P11 := Lib.hid (P10.out.below h11)
  have Q11 := Lib.hid (Q10.out.below h11)
  clear V1 hb10 h11 P10 Q10
  go_wp2_with (fail)
  refine (V2.out _ hb11).mono ?_
  rintro e w12 ⟨rfl, h12⟩
  have hb12 := hb11.trans (h12.mono hb11.size)
  have P12 := Lib.hid (P11.out.below h12)
  have Q12 := Lib.hid (Q11.out.below h12)
  clear V2 hb11 h12 P11 Q11
  go_wp2_with (fail)
  refine (N1.out _ hb12).mono ?_
  rintro e w13 ⟨rfl, h13⟩
  have hb13 := hb12.trans (h13.mono hb12.size)
  have P13 := Lib.hid (P12.out.below h13)
  have Q13 := Lib.hid (Q12.out.below h13)
  clear N1 hb12 h13 P12 Q12
  go_wp2_with (fail)
  refine (N2.out _ hb13).mono ?_
  rintro e w14 ⟨rfl, h14⟩
  have hb14 := hb13.trans (h14.mono hb13.size)
  have P14 := Lib.hid (P13.out.below h14)
  have Q14 := Lib.hid (Q13.out.below h14)
  clear N2 hb13 h14 P13 Q13
  have HS := Lib.hid (same_any p q R R w14 P14.out Q14.out HR.out)
  rw [beq_self_eq_true] at HS
  clear P14 Q14
  go_wp2_with (fail)
  refine HS.out.mono ?_
  rintro e w15 ⟨rfl, q15, hq15⟩
  have hb15 : Below w.heap.size w w15 := by rw [hq15]; exact below_drewNv hb14 q15
  clear hq15 HS hb14
  go_wp2_with (fail)
  go_ret
  exact ⟨rfl, hb15⟩

theorem cut_both (s : ByteArray) (f t : Int) (w : World) (hs : s.size ≤ 2000) (hT : Tabs w) :
    ∃ X ec, Gv w 11 #[.string s, .int .i64 f, .int .i64 t] (.tuple #[.string X, .int .i64 ec]) ∧ Gv w 23 #[.string s, .int .i64 f, .int .i64 t] (.tuple #[.string X, .int .i64 ec]) := by
  cases hv : validD s.data.toList
  · exact ⟨_, _, gv_tab hT fun W hTW => cut_form s f t W (by omega) hTW hv, gv fun W => ref_cut_form s f t W (by omega) hv⟩
  · by_cases hr : f < 0 ∨ t < f ∨ ((runes s.data.toList).length : Int) < t
    · exact ⟨_, _, gv_tab hT fun W hTW => cut_range s f t W (by omega) hTW hv hr, gv fun W => ref_cut_range s f t W (by omega) hv hr⟩
    · obtain ⟨a, rfl⟩ : ∃ a : Nat, f = a := ⟨f.toNat, by omega⟩
      obtain ⟨b, rfl⟩ : ∃ b : Nat, t = b := ⟨t.toNat, by omega⟩
      exact ⟨_, _, gv_tab hT fun W hTW => (cut_yes s a b W (by omega) hTW hv (by omega) (by omega)).mono fun _ _ ⟨u, he, ht, hb⟩ => ⟨by rw [he, strOf_eq ht], hb⟩, gv fun W => ref_cut_yes s a b W (by omega) hv (by omega) (by omega)⟩

theorem list_both (s : ByteArray) (w : World) (hs : s.size ≤ 2000) (hT : Tabs w) :
    ∃ g R, R.length < 4611686018427387904 ∧ GvL w 13 #[.string s] g R ∧ GvL w 24 #[.string s] g R := by
  cases hv : validD s.data.toList
  · exact ⟨5, [], by decide, fun W hb => (list_no s W (by omega) (hT.below hb) hv).mono fun _ W' ⟨he, hb'⟩ => ⟨⟨_, he, nil_reads W'⟩, hb'⟩, fun W _ => (ref_list_no s W (by omega) hv).mono fun _ W' ⟨he, hb'⟩ => ⟨⟨_, he, nil_reads W'⟩, hb'⟩⟩
  · have hl : (runes s.data.toList).length ≤ 2000 := by
      have h1 := runes_length s.data.toList
      rw [size_list] at h1
      omega
    exact ⟨0, runes s.data.toList, by omega, fun W hb => list_ok s W (by omega) (hT.below hb) hv, fun W _ => ref_list_yes s W (by omega) hv⟩

theorem text_both (v : Value) (l : List Int) (w : World) (hv : IntSl w v l) (hl : l.length ≤ 65536) :
    ∃ T tc, GvT w 12 l (.tuple #[.string T, .int .i64 tc]) ∧ Gv w 26 #[v] (.tuple #[.string T, .int .i64 tc]) := by
  by_cases hC : ∀ c ∈ l, isC c
  · exact ⟨_, _, fun W u _ hu => text_ok u l W hu hl hC, fun W hb => ref_text_ok v l W (hv.below hb) hl hC⟩
  · exact ⟨_, _, fun W u _ hu => text_bad u l W hu hl hC, fun W hb => ref_text_bad v l W (hv.below hb) hl hC⟩

theorem walk (s : ByteArray) (i f t : Int) (v : Value) (l : List Int) (w : World) (_ : -9223372036854775808 ≤ i) (_ : i ≤ 9223372036854775807) (_ : -9223372036854775808 ≤ f) (_ : f ≤ 9223372036854775807) (_ : -9223372036854775808 ≤ t) (_ : t ≤ 9223372036854775807) (hv : IntSl w v l) (hm : l.length ≤ 9223372036854775807) (hs : s.size ≤ maxLen) (hT : Tabs w) :
    Calls Tryd.prog 4 #[.string s, .int .i64 i, .int .i64 f, .int .i64 t, v] w fun e w' => e = .returned (.bool true) ∧ Below w.heap.size w w' := by
  have L := lives_gives w hT
  by_cases h1 : 2000 < s.size
  · exact long_s s i f t v w hs h1 L
  · by_cases h2 : 2000 < l.length
    · obtain ⟨A, cap, rfl⟩ := IntSl.form hv
      exact long_l s i f t A l.length cap w (by omega) h2 hm L
    · obtain ⟨X, ec, C1, C2⟩ := cut_both s f t w (by omega) hT
      obtain ⟨g, R, hR, L1, L2⟩ := list_both s w (by omega) hT
      obtain ⟨T, tc, T1, T2⟩ := text_both v l w hv (by omega)
      have O : GvO w 25 #[v] l := fun W hb => own_any v l W (hv.below hb) (by omega)
      obtain ⟨A, cap, rfl⟩ := IntSl.form hv
      exact core s X T i f t _ ec g tc _ _ _ A l.length cap l R w (by omega) (by omega) hR L
        (gv_tab hT fun W hTW => at_any s i W (by omega) hTW) (gv fun W => ref_at s i W (by omega)) C1 C2 L1 L2 O T1 T2
        (gv_tab hT fun W hTW => valid_any s W (by omega) hTW) (gv fun W => ref_valid s W (by omega))
        (gv_tab hT fun W hTW => len_any s W (by omega) hTW) (gv fun W => ref_len s W (by omega))
end Go.Proofs.YtagcfgonajogcaaDoor.LawCalls
