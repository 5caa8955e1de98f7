/- Package shape: the points of a slice, its edges, its area. -/
import Derived.Test.YtnijcdphmibjaaaDevBox
import Derived.Test.YtnijcdphmibjaaaPoly
import Derived.Deep.RegionHeld3
import Derived.Deep.DrawnRows
import Derived.Deep.DeepCutAuto
namespace Go.Proofs.Ytnijcdphmibjaaa
open Go.RowKit Go.Sort
attribute [local go_sem ↓] run_min_mn run_max_mx

set_option maxRecDepth 100000 in
set_option maxHeartbeats 1000000 in
theorem edge_any (b off n c : Nat) (l : List Pt) (i : Nat) (w : World) (hl : l.length = n) (hn : 0 < n) (hn' : n ≤ 1000000) (hi : i ≤ 1000000) (h : PtsIn w b off l) :
    Calls Try.prog 89 #[.slice (some ⟨b, off, none⟩) n c, .int .i64 i] w fun e w' =>
      e = .returned (.tuple #[.agg #[.int .i64 (gt l (i % n)).1, .int .i64 (gt l (i % n)).2], .agg #[.int .i64 (nx l i).1, .int .i64 (nx l i).2]]) ∧ Below w.heap.size w w' := by
  have hm : (i + 1) % n < n := Nat.mod_lt _ hn
  have hm0 : i % n < n := Nat.mod_lt _ hn
  have hx : l[(i + 1) % n]? = some (nx l i) := by
    unfold nx; subst hl
    rw [List.getD_eq_getElem?_getD, List.getElem?_eq_getElem hm]; rfl
  have hx0 : l[i % n]? = some (gt l (i % n)) := by
    unfold gt; subst hl
    rw [List.getD_eq_getElem?_getD, List.getElem?_eq_getElem hm0]; rfl
  obtain ⟨h1, h2⟩ := h _ _ hx
  obtain ⟨h3, h4⟩ := h _ _ hx0
  generalize nx l i = p at *
  generalize gt l (i % n) = q at *
  obtain ⟨x, y⟩ := p
  obtain ⟨u, v⟩ := q
  clear hl h hx hx0
  have B1 : b < w.heap.size := block_lt_of_cell h1
  have t0 : ¬ n = 0 := by omega
  have t1 : (i : Int).tmod (n : Int) = ((i % n : Nat) : Int) := rfl
  have t2 : IntKind.i64.wrap ((i : Int) + 1) = ((i + 1 : Nat) : Int) := by rw [IntKind.wrap_i64]; omega
  have t3 : ((i + 1 : Nat) : Int).tmod (n : Int) = (((i + 1) % n : Nat) : Int) := rfl
  generalize i % n = k0 at *
  generalize (i + 1) % n = k1 at *
  generalize hj : i + 1 = j at *
  have HJ := Lib.hid hj
  clear hj
  go_enter Try.func89, Try.ntmps89
  go_wp2_with fail
  have n1 := World.new_ne w _ h1
  have n2 := World.new_ne w _ h2
  have n3 := World.new_ne w _ h3
  have n4 := World.new_ne w _ h4
  have nb1 : ¬ b = w.heap.size := by omega
  have nb2 : ¬ w.heap.size = b := by omega
  have nb3 : ¬ b = w.heap.size + 1 := by omega
  have nb4 : ¬ w.heap.size + 1 = b := by omega
  have nb5 : b < w.heap.size + 1 := by omega
  have lt2 : w.heap.size < w.heap.size + 1 + 1 := by omega
  go_region
  all_goals
    go_wp2
    refine bodyPost_ret (v := .tuple #[.agg #[.int .i64 u, .int .i64 v], .agg #[.int .i64 x, .int .i64 y]]) (by simp [results, Try.results89, go_sem]) rfl ⟨rfl, ?_⟩
    go_grown
end Go.Proofs.Ytnijcdphmibjaaa
