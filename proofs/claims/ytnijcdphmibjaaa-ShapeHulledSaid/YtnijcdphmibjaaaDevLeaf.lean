/- Contracts of package shape's small functions. -/
import Derived.Test.YtnijcdphmibjaaaRef
import Derived.Lib.QuietBelow
import Derived.BigQuiet
namespace Go.Proofs.Ytnijcdphmibjaaa
open Go.RowKit Go.Sort
attribute [local go_sem ↓] run_min_mn run_max_mx

theorem isNear_any (x y lim : Int) (hl : 0 ≤ lim ∧ lim ≤ 1000000) (w : World) :
    Calls Try.prog 69 #[.agg #[.int .i64 x, .int .i64 y], .int .i64 lim] w fun e w' => e = .returned (.bool (validB x y lim)) ∧ Below w.heap.size w w' := by
  have b1 := hl.1
  have b2 := hl.2
  have e : validB x y lim = (decide (-lim ≤ mn x y) && decide (mx x y ≤ lim)) := by
    rw [Bool.eq_iff_iff]
    unfold validB inB mn mx
    by_cases g : y < x <;> by_cases g' : x < y <;> simp [g, g'] <;> omega
  have H := Lib.hid e
  clear hl e
  generalize validB x y lim = v at *
  go_enter Try.func69, Try.ntmps69
  go_wp2
  all_goals
    go_ret
    refine ⟨ret_bool ?_, by go_grown⟩
    rw [H.out]
    simp
    try omega

theorem minus_any (ax ay bx by' : Int) (w : World) (h1 : -200000 ≤ ax ∧ ax ≤ 200000) (h2 : -200000 ≤ ay ∧ ay ≤ 200000) (h3 : -200000 ≤ bx ∧ bx ≤ 200000) (h4 : -200000 ≤ by' ∧ by' ≤ 200000) :
    Calls Try.prog 104 #[.agg #[.int .i64 ax, .int .i64 ay], .agg #[.int .i64 bx, .int .i64 by']] w fun e w' =>
      e = .returned (.agg #[.int .i64 (ax - bx), .int .i64 (ay - by')]) ∧ Below w.heap.size w w' := by
  go_enter Try.func104, Try.ntmps104
  go_wp2
  go_returns
  exact ⟨rfl, by go_grown⟩

theorem crossD_any (ax ay bx by' : Int) (w : World) (h1 : -400000 ≤ ax ∧ ax ≤ 400000) (h2 : -400000 ≤ ay ∧ ay ≤ 400000) (h3 : -400000 ≤ bx ∧ bx ≤ 400000) (h4 : -400000 ≤ by' ∧ by' ≤ 400000) :
    Calls Try.prog 88 #[.agg #[.int .i64 ax, .int .i64 ay], .agg #[.int .i64 bx, .int .i64 by']] w fun e w' =>
      e = .returned (.int .i64 (ax * by' - bx * ay)) ∧ Below w.heap.size w w' := by
  have p1 := mul_le_of_abs h1 h4
  have p2 := mul_le_of_abs h3 h2
  go_enter Try.func88, Try.ntmps88
  go_wp2
  go_ret
  exact ⟨rfl, by go_grown⟩

set_option maxHeartbeats 800000 in
theorem turn_any (ax ay bx by' cx cy : Int) (w : World)
    (h1 : -60000 ≤ ax ∧ ax ≤ 60000) (h2 : -60000 ≤ ay ∧ ay ≤ 60000) (h3 : -60000 ≤ bx ∧ bx ≤ 60000) (h4 : -60000 ≤ by' ∧ by' ≤ 60000) (h5 : -60000 ≤ cx ∧ cx ≤ 60000) (h6 : -60000 ≤ cy ∧ cy ≤ 60000) :
    Calls Try.prog 92 #[.agg #[.int .i64 ax, .int .i64 ay], .agg #[.int .i64 bx, .int .i64 by'], .agg #[.int .i64 cx, .int .i64 cy]] w fun e w' =>
      e = .returned (.int .i64 (cross ax ay bx by' cx cy)) ∧ Below w.heap.size w w' := by
  have M1 := fun W => Lib.hid (minus_any bx by' ax ay W (by omega) (by omega) (by omega) (by omega))
  have M2 := fun W => Lib.hid (minus_any cx cy ax ay W (by omega) (by omega) (by omega) (by omega))
  have C := fun W => Lib.hid (crossD_any (bx - ax) (by' - ay) (cx - ax) (cy - ay) W (by omega) (by omega) (by omega) (by omega))
  clear h1 h2 h3 h4 h5 h6
  go_enter Try.func92, Try.ntmps92
  go_wp2_with fail
  generalize hW : (((w.alloc (.cells #[.int .i64 ax, .int .i64 ay] 33)).alloc (.cells #[.int .i64 bx, .int .i64 by'] 33)).alloc (.cells #[.int .i64 cx, .int .i64 cy] 33)) = W0 at *
  have ta := PtAt.new (w := w) (x := ax) (y := ay) (t := 33) |>.alloc (.cells #[.int .i64 bx, .int .i64 by'] 33) (by simp) |>.alloc (.cells #[.int .i64 cx, .int .i64 cy] 33) (by simp; omega)
  have tb := PtAt.new (w := w.alloc (.cells #[.int .i64 ax, .int .i64 ay] 33)) (x := bx) (y := by') (t := 33) |>.alloc (.cells #[.int .i64 cx, .int .i64 cy] 33) (by simp)
  have tc := PtAt.new (w := (w.alloc (.cells #[.int .i64 ax, .int .i64 ay] 33)).alloc (.cells #[.int .i64 bx, .int .i64 by'] 33)) (x := cx) (y := cy) (t := 33)
  have hbw : Below w.heap.size w W0 := by subst hW; exact ((Below.refl _ _).alloc (Nat.le_refl _) _ |>.alloc (by simp) _ |>.alloc (by simp; omega) _)
  rw [hW] at ta tb tc
  simp only [World.size_alloc] at tb tc
  clear hW
  obtain ⟨a1, a2⟩ := ta
  obtain ⟨b1, b2⟩ := tb
  obtain ⟨c1, c2⟩ := tc
  have K1 := fun d os => Lib.hid (Calls.regrown_of ((M1 (grow (redrawn W0 d) os)).out))
  have K2 := fun d os => Lib.hid (Calls.regrown_of ((M2 (grow (redrawn W0 d) os)).out))
  have K3 := fun d os => Lib.hid (Calls.regrown_of ((C (grow (redrawn W0 d) os)).out))
  have t1 := cell_regrown a1
  have t2 := cell_regrown a2
  have t3 := cell_regrown b1
  have t4 := cell_regrown b2
  have t5 := cell_regrown c1
  have t6 := cell_regrown c2
  clear a1 a2 b1 b2 c1 c2 M1 M2 C
  refine wp_region_quiet_below (by kernel_rfl) (by kernel_rfl) ?_
  repeat (go_big_quiet_step (first | (with_reducible exact (K1 _ _).out) | (with_reducible exact (K2 _ _).out) | (with_reducible exact (K3 _ _).out)))
  refine wpQuiet_nil ?_
  intro _ hw'
  obtain ⟨⟨dq, osq⟩, hw''⟩ := hw'
  subst hw''
  go_wp2
  go_ret
  exact ⟨rfl, hbw.trans ((below_regrown W0 dq osq).mono hbw.size)⟩

end Go.Proofs.Ytnijcdphmibjaaa
