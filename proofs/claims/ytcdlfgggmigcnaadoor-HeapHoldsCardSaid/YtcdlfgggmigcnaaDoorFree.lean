/- The contracts of the free numbers' add and least: container/heap's Push and Pop at them. -/
import Derived.Test.YtcdlfgggmigcnaaDoorDown
namespace Go.Proofs.YtcdlfgggmigcnaaDoor.Nums
set_option maxRecDepth 100000
open Go.RowKit
open Go.Proofs.YtcdlfgggmigcnaaDoor.Own Go.Proofs.YtcdlfgggmigcnaaDoor.Hp Go.Proofs.YtcdlfgggmigcnaaDoor.HeapOrd Go.Proofs.YtcdlfgggmigcnaaDoor.Rep Go.Proofs.YtcdlfgggmigcnaaDoor.Meth

def snoc (f : Nat → Nat) (n x : Nat) : Nat → Nat := fun k => if k = n then x else f k
theorem setOut (cs : Array Value) (k : Nat) (v u : Value) (h : cs[k]? = some v) : (cs.setIfInBounds k u)[k]? = some u := by
  have := (Array.getElem?_eq_some_iff.1 h).1
  simp [this]

/-- What add leaves. -/
structure Added (w w' : World) (base hp k n x : Nat) (cs : Array Value) (t : TypeId) (v v' : Value) (f f' : Nat → Nat) : Prop where
  blk : Blk w' hp (cs.setIfInBounds k v') t
  row : w'.ownsRow base 3 1 v' (n + 1) (fcells (n + 1) f')
  keeps : Keeps (fun b => b = hp ∨ v.ownBlock = some b) w w'
  place : ∀ b, v'.ownBlock = some b → v.ownBlock = some b ∨ w.heap.size ≤ b
  sames : Sames (n + 1) (snoc f n x) f'

theorem push_any (base hp k n x : Nat) (v : Value) (f : Nat → Nat) (cs : Array Value) (t : TypeId) (w : World) (hn : n ≤ 65536) (hB : Blk w hp cs t) (hv : cs[k]? = some v) (hown : w.ownsRow base 3 1 v n (fcells n f)) (hb : base ≤ w.heap.size) (hne : v.ownBlock ≠ some hp) :
    Calls Tryd.prog 165 #[.pointer (some ⟨hp, k, none⟩), .iface 3 (.int .i64 (x : Int))] w fun e w' => e = .returned (.tuple #[]) ∧ ∃ A c, Added w w' base hp k n x cs t v (.slice A (n + 1) c) f (snoc f n x) ∧ Value.ownBlock (.slice A (n + 1) c) ≠ some hp := by
  refine (push_core base hp k n x v (fcells n f) w hn (hB.cell k v hv) (hB.free k) hown hb hne).mono ?_
  rintro e w' ⟨he, v', w1, hrow, hk, hpl, rfl⟩
  obtain ⟨A, c, rfl⟩ := slice_of' hrow
  have hne2 : Value.ownBlock (.slice A (n + 1) c) ≠ some hp := fun e => by
    rcases hpl hp e with h | h
    · exact hne h
    · have := hB.lt; omega
  refine ⟨he, A, c, ⟨(hB.keeps hk hne).set k _, ?_, (hk.mono fun b _ e => .inr e).setCell ⟨hp, k, none⟩ _ fun _ => .inl rfl, hpl, .refl _ _⟩, hne2⟩
  rw [fcells_snoc] at hrow
  exact owns_keeps hrow ((Keeps.refl (fun b => b = hp) w1).setCell ⟨hp, k, none⟩ _ fun _ => rfl) fun b hb e => hne2 (e ▸ hb)

set_option maxHeartbeats 2000000 in
theorem hpush_any (base hp k n x : Nat) (v : Value) (f : Nat → Nat) (cs : Array Value) (t : TypeId) (w : World) (hn : n + 1 ≤ 65536) (hB : Blk w hp cs t) (hv : cs[k]? = some v) (hown : w.ownsRow base 3 1 v n (fcells n f)) (hb : base ≤ w.heap.size) (hne : v.ownBlock ≠ some hp) (ho : Ord f n) :
    Calls Tryd.prog 127 #[.iface 185 (.pointer (some ⟨hp, k, none⟩)), .iface 3 (.int .i64 (x : Int))] w fun e w' => e = .returned (.tuple #[]) ∧ ∃ v' f', Added w w' base hp k n x cs t v v' f f' ∧ Ord f' (n + 1) := by
  have hP := push_any base hp k n x v f cs t w (by omega) hB hv hown hb hne
  have HP := Lib.hid hP
  have mPush := meth_push ⟨hp, k, none⟩
  have mLen := meth_len hp k
  have HO := Lib.hid ho
  have HV := Lib.hid hv
  clear hP hB hv hown hne ho
  go_enter Tryd.func127, Tryd.ntmps127
  go_wp2_with fail
  refine HP.out.mono ?_
  rintro e w1 ⟨rfl, A, c, hA, hne2⟩
  have hc1 : w1.cell? ⟨hp, k, none⟩ = some (.slice A (n + 1) c) := hA.blk.cell k _ (setOut cs k _ _ HV.out)
  have HA := Lib.hid hA
  have HN2 := Lib.hid hne2
  clear hA hne2
  go_wp2_with (go_at_call 157; refine (len_any _ _ _ _).mono ?_; rintro e w' ⟨rfl, rfl⟩)
  obtain ⟨g, rfl⟩ : ∃ g, A = some ⟨g, 0, none⟩ := by
    rcases HA.out.row.2 with ⟨_, h⟩ | ⟨g, cap, cur, hh, _⟩
    · omega
    · cases hh; exact ⟨g, rfl⟩
  have hou : UpInv (snoc f n x) (n + 1) n := by
    have h1 : Ord (snoc f n x) n := fun k hk0 hk => by
      unfold snoc
      rw [if_neg (by omega), if_neg (by omega)]
      exact HO.out k hk0 hk
    exact h1.push
  have hng : hp ≠ g := fun e => HN2.out (by rw [e]; rfl)
  go_wp2_with fail
  refine (up_any base hp k g c (n + 1) n (snoc f n x) w1 hn hc1 hng HA.out.row hou).mono ?_
  rintro e w2 ⟨rfl, f', hs, ho'⟩
  have hfin : Added w w2 base hp k n x cs t v (.slice (some ⟨g, 0, none⟩) (n + 1) c) f f' :=
    ⟨HA.out.blk.keeps hs.keeps (fun e => hng e), hs.row, HA.out.keeps.then hs.keeps (fun b hb e => by subst e; exact .inr (by
      rcases HA.out.place b rfl with h | h
      · exact h
      · omega)), HA.out.place, hs.sames⟩
  have HF := Lib.hid hfin
  clear hfin hs
  go_wp2_with fail
  go_end0
  exact ⟨rfl, _, f', HF.out, ho'⟩
end Go.Proofs.YtcdlfgggmigcnaaDoor.Nums
