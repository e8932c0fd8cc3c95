/- The contracts of the free numbers' add and least. -/
import Derived.Test.YtcdlfgggmigcnaaDoorFree
namespace Go.Proofs.YtcdlfgggmigcnaaDoor.Nums
set_option maxRecDepth 100000
open Go.RowKit
open Go.Proofs.YtcdlfgggmigcnaaDoor.Own Go.Proofs.YtcdlfgggmigcnaaDoor.Hp Go.Proofs.YtcdlfgggmigcnaaDoor.HeapOrd Go.Proofs.YtcdlfgggmigcnaaDoor.Rep Go.Proofs.YtcdlfgggmigcnaaDoor.Meth

theorem add_any (base hp k n x : Nat) (v : Value) (f : Nat → Nat) (cs : Array Value) (t : TypeId) (w : World) (hn : n + 1 ≤ 65536) (hB : Blk w hp cs t) (hv : cs[k]? = some v) (hown : w.ownsRow base 3 1 v n (fcells n f)) (hb : base ≤ w.heap.size) (hne : v.ownBlock ≠ some hp) (ho : Ord f n) :
    Calls Tryd.prog 112 #[.pointer (some ⟨hp, k, none⟩), .int .i64 (x : Int)] w fun e w' => e = .returned (.tuple #[]) ∧ ∃ v' f', Added w w' base hp k n x cs t v v' f f' ∧ Ord f' (n + 1) := by
  have hP := hpush_any base hp k n x v f cs t w hn hB hv hown hb hne ho
  have HP := Lib.hid hP
  clear hP hB hv hown hne ho
  go_enter Tryd.func112, Tryd.ntmps112
  go_wp2_with fail
  refine HP.out.mono ?_
  rintro e w1 ⟨rfl, h⟩
  have H := Lib.hid h
  clear h
  go_wp2_with fail
  go_end0
  exact ⟨rfl, H.out⟩

/-- What least leaves. -/
structure Taken (w w' : World) (base hp k n g c : Nat) (cs : Array Value) (t : TypeId) (f f' : Nat → Nat) : Prop where
  blk : Blk w' hp (cs.setIfInBounds k (.slice (some ⟨g, 0, none⟩) n c)) t
  row : w'.ownsRow base 3 1 (.slice (some ⟨g, 0, none⟩) n c) n (fcells n f')
  keeps : Keeps (fun b => b = hp ∨ b = g) w w'
  sames : Sames (n + 1) f f'
  last : f' n = f 0
  ord : Ord f' n

set_option maxHeartbeats 2000000 in
theorem hpop_any (base hp k n g c : Nat) (f : Nat → Nat) (cs : Array Value) (t : TypeId) (w : World) (hn : n ≤ 65536) (hB : Blk w hp cs t) (hv : cs[k]? = some (.slice (some ⟨g, 0, none⟩) (n + 1) c)) (hown : w.ownsRow base 3 1 (.slice (some ⟨g, 0, none⟩) (n + 1) c) (n + 1) (fcells (n + 1) f)) (hne : hp ≠ g) (ho : Ord f (n + 1)) :
    Calls Tryd.prog 134 #[.iface 185 (.pointer (some ⟨hp, k, none⟩))] w fun e w' => e = .returned (.iface 3 (.int .i64 (f 0 : Int))) ∧ ∃ f', Taken w w' base hp k n g c cs t f f' := by
  have mLen := meth_len hp k
  have mSwap := meth_swap hp k
  have mPop := meth_pop ⟨hp, k, none⟩
  have hc0 := hB.cell k _ hv
  have HB := Lib.hid hB
  have HV := Lib.hid hv
  have HOw := Lib.hid hown
  have HO := Lib.hid ho
  have HNe := Lib.hid hne
  have hcap : n + 1 ≤ c ∧ c ≤ 9223372036854775807 := by
    rcases hown.2 with ⟨h, _⟩ | ⟨g', cap, cur, hh, _, _, h1, h2, _⟩
    · cases h
    · cases hh; exact ⟨h1, by unfold maxLen at h2; omega⟩
  obtain ⟨hcap1, hcap2⟩ := hcap
  clear hB hv hown ho hne
  go_enter Tryd.func134, Tryd.ntmps134
  go_wp2_with (go_at_call 157; refine (len_any _ _ _ _).mono ?_; rintro e w' ⟨rfl, rfl⟩)
  refine (swap_at' base g (n + 1) c 0 n _ _ (by omega) (by omega) f w (by omega) (by omega) HOw.out).mono ?_
  rintro e w1 ⟨rfl, hrow, hk⟩
  have hc1 := cell_keeps hk hc0 HNe.out
  have hD := down_any base hp k g c n (swap f 0 n) w1 hn hc1 HNe.out hrow HO.out.pop
  have HD := Lib.hid hD
  have HK1 := Lib.hid hk
  clear hD hk hrow
  go_wp2_with fail
  refine HD.out.mono ?_
  rintro e w2 ⟨⟨b, rfl⟩, f', hs, ho'⟩
  have hc2 := cell_keeps hs.keeps hc1 HNe.out
  have hB2 := (HB.out.keeps HK1.out (fun e => HNe.out e)).keeps hs.keeps (fun e => HNe.out e)
  have hl : f' n = f 0 := by rw [hs.last, swap_right]
  have hx : w2.cell? ⟨g, n, none⟩ = some (.int .i64 (f 0 : Int)) := by
    rw [← hl]
    exact (Row.of_owns hs.row).cell n _ (fcells_at (n + 1) f' n (by omega))
  have hP := pop_any hp k g n c (f 0 : Int) w2 hn hc2 hx (hB2.free k) hcap1 hcap2
  have HP := Lib.hid hP
  have hfin : Taken w (w2.setCell ⟨hp, k, none⟩ (.slice (some ⟨g, 0, none⟩) n c)) base hp k n g c cs t f f' := by
    refine ⟨hB2.set k _, ?_, ?_, (sames_swap (n + 1) f 0 n (by omega) (by omega)).trans hs.sames, hl, ho'⟩
    · have h1 := owns_cut hs.row (m := n) (by omega)
      rw [fcells_take (n + 1) n f' (by omega)] at h1
      exact owns_keeps h1 ((Keeps.refl (fun b => b = hp) w2).setCell ⟨hp, k, none⟩ _ fun _ => rfl) fun b hb e => by
        simp only [Value.ownBlock, Option.some.injEq] at hb
        exact HNe.out (by rw [hb]; exact e.symm)
    · exact ((HK1.out.mono fun b _ e => .inr e).trans (hs.keeps.mono fun b _ e => .inr e)).setCell ⟨hp, k, none⟩ _ fun _ => .inl rfl
  have HF := Lib.hid hfin
  clear hfin hP hx hl hB2 hs ho' hc2 hc1
  go_wp2_with fail
  refine HP.out.mono ?_
  rintro e w3 ⟨rfl, rfl⟩
  go_wp2_with fail
  go_ret
  exact ⟨rfl, f', HF.out⟩

set_option maxHeartbeats 1000000 in
theorem least_any (base hp k n g c : Nat) (f : Nat → Nat) (cs : Array Value) (t : TypeId) (w : World) (hn : n ≤ 65536) (hB : Blk w hp cs t) (hv : cs[k]? = some (.slice (some ⟨g, 0, none⟩) (n + 1) c)) (hown : w.ownsRow base 3 1 (.slice (some ⟨g, 0, none⟩) (n + 1) c) (n + 1) (fcells (n + 1) f)) (hne : hp ≠ g) (ho : Ord f (n + 1)) :
    Calls Tryd.prog 125 #[.pointer (some ⟨hp, k, none⟩)] w fun e w' => e = .returned (.int .i64 (f 0 : Int)) ∧ ∃ f', Taken w w' base hp k n g c cs t f f' := by
  have hP := hpop_any base hp k n g c f cs t w hn hB hv hown hne ho
  have HP := Lib.hid hP
  have a1 := as_int
  clear hP hB hv hown hne ho
  go_enter Tryd.func125, Tryd.ntmps125
  go_wp2_with fail
  refine HP.out.mono ?_
  rintro e w1 ⟨rfl, h⟩
  have H := Lib.hid h
  clear h
  go_wp2_with fail
  go_ret
  exact ⟨rfl, H.out⟩
end Go.Proofs.YtcdlfgggmigcnaaDoor.Nums
