/- Do two segments meet? The reference's function, by its plain twin. -/
import Derived.Test.YtnijcdphmibjaaaRef
import Derived.Lib.QuietBelow
import Derived.BigQuiet
namespace Go.Proofs.Ytnijcdphmibjaaa
open Go.RowKit Go.Sort
attribute [local go_sem ↓] run_min_mn run_max_mx

set_option maxHeartbeats 800000 in
theorem meet_any (ax ay bx by' cx cy dx dy : Int) (w : World)
    (h1 : -60000 ≤ ax ∧ ax ≤ 60000) (h2 : -60000 ≤ ay ∧ ay ≤ 60000) (h3 : -60000 ≤ bx ∧ bx ≤ 60000) (h4 : -60000 ≤ by' ∧ by' ≤ 60000) (h5 : -60000 ≤ cx ∧ cx ≤ 60000) (h6 : -60000 ≤ cy ∧ cy ≤ 60000) (h7 : -60000 ≤ dx ∧ dx ≤ 60000) (h8 : -60000 ≤ dy ∧ dy ≤ 60000) :
    Calls Try.prog 66 #[.agg #[.int .i64 ax, .int .i64 ay], .agg #[.int .i64 bx, .int .i64 by'], .agg #[.int .i64 cx, .int .i64 cy], .agg #[.int .i64 dx, .int .i64 dy]] w fun e w' =>
      e = .returned (.bool (meetB ax ay bx by' cx cy dx dy)) ∧ Below w.heap.size w w' := by
  have O1 := fun W => Lib.hid (on_any ax ay bx by' cx cy W h1 h2 h3 h4 h5 h6)
  have O2 := fun W => Lib.hid (on_any ax ay bx by' dx dy W h1 h2 h3 h4 h7 h8)
  have O3 := fun W => Lib.hid (on_any cx cy dx dy ax ay W h5 h6 h7 h8 h1 h2)
  have O4 := fun W => Lib.hid (on_any cx cy dx dy bx by' W h5 h6 h7 h8 h3 h4)
  have C1 := fun W => Lib.hid (cross_any ax ay bx by' cx cy W h1 h2 h3 h4 h5 h6)
  have C2 := fun W => Lib.hid (cross_any ax ay bx by' dx dy W h1 h2 h3 h4 h7 h8)
  have C3 := fun W => Lib.hid (cross_any cx cy dx dy ax ay W h5 h6 h7 h8 h1 h2)
  have C4 := fun W => Lib.hid (cross_any cx cy dx dy bx by' W h5 h6 h7 h8 h3 h4)
  clear h1 h2 h3 h4 h5 h6 h7 h8
  go_enter Try.func66, Try.ntmps66
  go_wp2_with fail
  refine ((O1 _).out).mono ?_
  rintro e w1 ⟨rfl, hb1⟩
  have hk1 := below_of4 (by simpa using hb1)
  obtain ⟨a1, a2⟩ := PtAt.below hb1 (b := w.heap.size) (x := ax) (y := ay) (by simp; omega) (by constructor <;> go_simp)
  obtain ⟨b1, b2⟩ := PtAt.below hb1 (b := w.heap.size + 1) (x := bx) (y := by') (by simp) (by constructor <;> go_simp)
  obtain ⟨c1, c2⟩ := PtAt.below hb1 (b := w.heap.size + 1 + 1) (x := cx) (y := cy) (by simp) (by constructor <;> go_simp)
  obtain ⟨d1, d2⟩ := PtAt.below hb1 (b := w.heap.size + 1 + 1 + 1) (x := dx) (y := dy) (by simp) (by constructor <;> go_simp)
  have hs1 : w.heap.size + 1 + 1 + 1 + 1 ≤ w1.heap.size := by have := hb1.size; simp at this; omega
  clear hb1
  go_wp2_with fail
  · go_ret
    rename_i h
    exact ⟨ret_bool (by simp [meetB, h]), hk1⟩
  rename_i n1
  refine ((O2 _).out).mono ?_
  rintro e w2 ⟨rfl, hb2⟩
  have t := PtAt.below hb2 (by omega) ⟨a1, a2⟩
  clear a1 a2
  obtain ⟨a1, a2⟩ := t
  have t := PtAt.below hb2 (by omega) ⟨b1, b2⟩
  clear b1 b2
  obtain ⟨b1, b2⟩ := t
  have t := PtAt.below hb2 (by omega) ⟨c1, c2⟩
  clear c1 c2
  obtain ⟨c1, c2⟩ := t
  have t := PtAt.below hb2 (by omega) ⟨d1, d2⟩
  clear d1 d2
  obtain ⟨d1, d2⟩ := t
  have hs2 := hb2.size
  have hk2 := hk1.trans (hb2.mono hk1.size)
  clear hb2 hk1
  go_wp2_with fail
  · go_ret
    rename_i h
    exact ⟨ret_bool (by simp [meetB, h]), hk2⟩
  rename_i n2
  refine ((O3 _).out).mono ?_
  rintro e w3 ⟨rfl, hb3⟩
  have t := PtAt.below hb3 (by omega) ⟨a1, a2⟩
  clear a1 a2
  obtain ⟨a1, a2⟩ := t
  have t := PtAt.below hb3 (by omega) ⟨b1, b2⟩
  clear b1 b2
  obtain ⟨b1, b2⟩ := t
  have t := PtAt.below hb3 (by omega) ⟨c1, c2⟩
  clear c1 c2
  obtain ⟨c1, c2⟩ := t
  have t := PtAt.below hb3 (by omega) ⟨d1, d2⟩
  clear d1 d2
  obtain ⟨d1, d2⟩ := t
  have hs3 := hb3.size
  have hk3 := hk2.trans (hb3.mono hk2.size)
  clear hb3 hk2
  go_wp2_with fail
  · go_ret
    rename_i h
    exact ⟨ret_bool (by simp [meetB, h]), hk3⟩
  rename_i n3
  refine ((O4 _).out).mono ?_
  rintro e w4 ⟨rfl, hb4⟩
  have t := PtAt.below hb4 (by omega) ⟨a1, a2⟩
  clear a1 a2
  obtain ⟨a1, a2⟩ := t
  have t := PtAt.below hb4 (by omega) ⟨b1, b2⟩
  clear b1 b2
  obtain ⟨b1, b2⟩ := t
  have t := PtAt.below hb4 (by omega) ⟨c1, c2⟩
  clear c1 c2
  obtain ⟨c1, c2⟩ := t
  have t := PtAt.below hb4 (by omega) ⟨d1, d2⟩
  clear d1 d2
  obtain ⟨d1, d2⟩ := t
  have hs4 := hb4.size
  have hk4 := hk3.trans (hb4.mono hk3.size)
  clear hb4 hk3
  go_wp2_with fail
  · go_ret
    rename_i h
    exact ⟨ret_bool (by simp [meetB, h]), hk4⟩
  rename_i n4
  have S1 := sgn_bd (cross ax ay bx by' cx cy)
  have S2 := sgn_bd (cross ax ay bx by' dx dy)
  have S3 := sgn_bd (cross cx cy dx dy ax ay)
  have S4 := sgn_bd (cross cx cy dx dy bx by')
  have M1 := mul_le_of_abs S1 S2
  have M2 := mul_le_of_abs S3 S4
  have e1 : IntKind.i64.wrap (sgn (cross ax ay bx by' cx cy) * sgn (cross ax ay bx by' dx dy)) = sgn (cross ax ay bx by' cx cy) * sgn (cross ax ay bx by' dx dy) := IntWalk.i64_in _ (by omega)
  have e2 : IntKind.i64.wrap (sgn (cross cx cy dx dy ax ay) * sgn (cross cx cy dx dy bx by')) = sgn (cross cx cy dx dy ax ay) * sgn (cross cx cy dx dy bx by') := IntWalk.i64_in _ (by omega)
  clear S1 S2 S3 S4 M1 M2 hs1 hs2 hs3 hs4 O1 O2 O3 O4
  have K1 := fun d os => Lib.hid (Calls.regrown_of ((C1 (grow (redrawn w4 d) os)).out))
  have K2 := fun d os => Lib.hid (Calls.regrown_of ((C2 (grow (redrawn w4 d) os)).out))
  have K3 := fun d os => Lib.hid (Calls.regrown_of ((C3 (grow (redrawn w4 d) os)).out))
  have K4 := fun d os => Lib.hid (Calls.regrown_of ((C4 (grow (redrawn w4 d) os)).out))
  have KS := fun v d os => Lib.hid (Calls.regrown_of (sign_below v (grow (redrawn w4 d) os)))
  have ta1 := cell_regrown a1
  clear a1
  have ta2 := cell_regrown a2
  clear a2
  have tb1 := cell_regrown b1
  clear b1
  have tb2 := cell_regrown b2
  clear b2
  have tc1 := cell_regrown c1
  clear c1
  have tc2 := cell_regrown c2
  clear c2
  have td1 := cell_regrown d1
  clear d1
  have td2 := cell_regrown d2
  clear d2
  clear C1 C2 C3 C4
  cases g : decide (sgn (cross ax ay bx by' cx cy) * sgn (cross ax ay bx by' dx dy) < 0)
  all_goals
    refine wp_region_quiet_below (by kernel_rfl) (by kernel_rfl) ?_
    repeat (go_big_quiet_step (first | (with_reducible exact (K1 _ _).out) | (with_reducible exact (K2 _ _).out) | (with_reducible exact (K3 _ _).out) | (with_reducible exact (K4 _ _).out) | exact (KS _ _ _).out))
    refine wpQuiet_nil ?_
    intro _ hw'
    obtain ⟨⟨dq, osq⟩, hw''⟩ := hw'
    subst hw''
    go_wp2
    go_ret
    refine ⟨ret_bool ?_, hk4.trans ((below_regrown w4 dq osq).mono hk4.size)⟩
    have m1 : onB ax ay bx by' cx cy = false := by simpa using ‹¬onB ax ay bx by' cx cy = true›
    have m2 : onB ax ay bx by' dx dy = false := by simpa using ‹¬onB ax ay bx by' dx dy = true›
    have m3 : onB cx cy dx dy ax ay = false := by simpa using ‹¬onB cx cy dx dy ax ay = true›
    have m4 : onB cx cy dx dy bx by' = false := by assumption
    unfold meetB
    rw [m1, m2, m3, m4, g]
    simp
end Go.Proofs.Ytnijcdphmibjaaa
