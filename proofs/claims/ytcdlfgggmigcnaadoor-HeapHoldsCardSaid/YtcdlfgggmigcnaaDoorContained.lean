/- The contract of contained with the marking closure. -/
import Derived.Test.YtcdlfgggmigcnaaDoorEach
namespace Go.Proofs.YtcdlfgggmigcnaaDoor.Visit
set_option maxRecDepth 100000
open Go.RowKit
open Go.Proofs.YtcdlfgggmigcnaaDoor.Own Go.Proofs.YtcdlfgggmigcnaaDoor.Hp Go.Proofs.YtcdlfgggmigcnaaDoor.Rep Go.Proofs.YtcdlfgggmigcnaaDoor.Base Go.Proofs.YtcdlfgggmigcnaaDoor.Get Go.Proofs.YtcdlfgggmigcnaaDoor.Nums Go.Proofs.YtcdlfgggmigcnaaDoor.Place Go.Proofs.YtcdlfgggmigcnaaDoor.Dfs Go.Proofs.YtcdlfgggmigcnaaDoor.Clone

set_option maxHeartbeats 4000000 in
theorem contained_text {w0 : World} {hp bh gm bm bs M : Nat} {vals : List Value} (p : Value) (s : S) (W : World) (hd : DS w0 hp bh gm bm bs M vals s W) :
    Calls Tryd.prog 111 #[.iface 112 p, visitV bh bm bs] W fun e W' => e = .returned (.tuple #[]) ∧ DS w0 hp bh gm bm bs M vals s W' := by
  have a1 := as_text_cons
  have a2 := as_text_vector
  have a3 := as_text_code
  have HD := Lib.hid hd
  clear hd
  go_enter Tryd.func111, Tryd.ntmps111
  go_wp2_with fail
  go_end0
  exact ⟨rfl, HD.out⟩
set_option maxHeartbeats 4000000 in
theorem contained_cons {w0 : World} {base hp lim bh gm bm bs : Nat} {ob : Obs} {lab : Nat → Option Lab} {P : Parts} (h : HeapIs w0 base hp lim ob lab P) (hB : Blocks w0.heap.size bh gm bm bs) (g : Nat) (a d : Wd) (hb : Blk w0 g #[.int .i64 a.1, .int .i64 a.2, .int .i64 d.1, .int .i64 d.2] 110) (s : S) (W : World) (hd : DS w0 hp bh gm bm bs P.m P.vals s W) (hf : Fuel P.m s) :
    Calls Tryd.prog 111 #[.iface 108 (ptr g), visitV bh bm bs] W fun e W' => e = .returned (.tuple #[]) ∧ DS w0 hp bh gm bm bs P.m P.vals (eachS ob s [a, d]) W' := by
  have a1 := as_cons_cons
  have h1 := visit_any h hB a s W hd hf
  have h2 := fun W2 hd2 => visit_any h hB d (visitS ob s a) W2 hd2 (hf.each h.out [a])
  have hk := hd.below
  obtain ⟨c0, c1, c2, c3⟩ := (hb.below hk).four
  have H1 := Lib.hid h1
  have H2 := Lib.hid h2
  have HBl := Lib.hid hb
  clear h1 h2 hk h hB hd hf hb
  go_enter Tryd.func111, Tryd.ntmps111
  go_wp2_with fail
  refine H1.out.mono ?_
  rintro e W2 ⟨rfl, hd2⟩
  obtain ⟨d0, d1, d2, d3⟩ := (HBl.out.below hd2.below).four
  have HD2 := Lib.hid hd2
  clear hd2
  go_wp2_with fail
  refine (H2.out _ HD2.out).mono ?_
  rintro e W3 ⟨rfl, hd3⟩
  have HD3 := Lib.hid hd3
  clear hd3
  go_wp2_with fail
  go_end0
  exact ⟨rfl, HD3.out⟩
set_option maxHeartbeats 4000000 in
theorem contained_vector {w0 : World} {base hp lim bh gm bm bs : Nat} {ob : Obs} {lab : Nat → Option Lab} {P : Parts} (h : HeapIs w0 base hp lim ob lab P) (hB : Blocks w0.heap.size bh gm bm bs) (g : Nat) (r : Value) (l : List Wd) (hb : Blk w0 g #[r] 121) (hr : SlR w0 r l.length (wcells l)) (hm : l.length ≤ 65536) (s : S) (W : World) (hd : DS w0 hp bh gm bm bs P.m P.vals s W) (hf : Fuel P.m s) :
    Calls Tryd.prog 111 #[.iface 119 (ptr g), visitV bh bm bs] W fun e W' => e = .returned (.tuple #[]) ∧ DS w0 hp bh gm bm bs P.m P.vals (eachS ob s l) W' := by
  have a1 := as_vector_cons
  have a2 := as_vector_vector
  have h1 := each_any h hB r l hr (by omega) s W hd hf
  have c0 := (hb.below hd.below).cell 0 _ rfl
  have H1 := Lib.hid h1
  clear h1 h hB hd hf hb hr
  go_enter Tryd.func111, Tryd.ntmps111
  go_wp2_with fail
  refine H1.out.mono ?_
  rintro e W2 ⟨rfl, hd2⟩
  have HD2 := Lib.hid hd2
  clear hd2
  go_wp2_with fail
  go_end0
  exact ⟨rfl, HD2.out⟩
set_option maxHeartbeats 4000000 in
theorem contained_code {w0 : World} {base hp lim bh gm bm bs : Nat} {ob : Obs} {lab : Nat → Option Lab} {P : Parts} (h : HeapIs w0 base hp lim ob lab P) (hB : Blocks w0.heap.size bh gm bm bs) (g : Nat) (p q z rb r : Value) (l : List Wd) (hb : Blk w0 g #[p, q, z, rb, r] 135) (hr : SlR w0 r l.length (wcells l)) (hm : l.length ≤ 65536) (s : S) (W : World) (hd : DS w0 hp bh gm bm bs P.m P.vals s W) (hf : Fuel P.m s) :
    Calls Tryd.prog 111 #[.iface 132 (ptr g), visitV bh bm bs] W fun e W' => e = .returned (.tuple #[]) ∧ DS w0 hp bh gm bm bs P.m P.vals (eachS ob s l) W' := by
  have a1 := as_code_cons
  have a2 := as_code_vector
  have a3 := as_code_code
  have h1 := each_any h hB r l hr (by omega) s W hd hf
  have c0 := (hb.below hd.below).cell 4 _ rfl
  have H1 := Lib.hid h1
  clear h1 h hB hd hf hb hr
  go_enter Tryd.func111, Tryd.ntmps111
  go_wp2_with fail
  refine H1.out.mono ?_
  rintro e W2 ⟨rfl, hd2⟩
  have HD2 := Lib.hid hd2
  clear hd2
  go_wp2_with fail
  go_end0
  exact ⟨rfl, HD2.out⟩
theorem contained_any {w0 : World} {base hp lim bh gm bm bs : Nat} {ob : Obs} {lab : Nat → Option Lab} {P : Parts} (h : HeapIs w0 base hp lim ob lab P) (hB : Blocks w0.heap.size bh gm bm bs) (n : Nat) (v : Value) (o : Ob) (ho : ObAt w0 lab n v (some o)) (hs : Small (some o)) (s : S) (W : World) (hd : DS w0 hp bh gm bm bs P.m P.vals s W) (hf : Fuel P.m s) :
    Calls Tryd.prog 111 #[v, visitV bh bm bs] W fun e W' => e = .returned (.tuple #[]) ∧ DS w0 hp bh gm bm bs P.m P.vals (eachS ob s o.words) W' := by
  cases o with
  | cons a d =>
    obtain ⟨g, rfl, hl, hb⟩ := ho
    exact contained_cons h hB g a d hb s W hd hf
  | text t k =>
    obtain ⟨g, rfl, hl, hb⟩ := ho
    exact contained_text _ s W hd
  | vec l =>
    obtain ⟨g, r, rfl, hl, hb, hr⟩ := ho
    exact contained_vector h hB g r l hb (Go.Proofs.YtcdlfgggmigcnaaDoor.Clone.SlAt.reads hr) hs s W hd hf
  | code p q z b l =>
    obtain ⟨g, rb, rl, rfl, hl, hb, hrb, hrl⟩ := ho
    exact contained_code h hB g _ _ _ rb rl l hb (Go.Proofs.YtcdlfgggmigcnaaDoor.Clone.SlAt.reads hrl) hs.2 s W hd hf
end Go.Proofs.YtcdlfgggmigcnaaDoor.Visit
