/- Do two edges meet? Package shape's way: by boxes and sides. -/
import Derived.Test.YtnijcdphmibjaaaDevBox
namespace Go.Proofs.Ytnijcdphmibjaaa
open Go.RowKit Go.Sort
attribute [local go_sem ↓] run_min_mn run_max_mx

def boxB (ax ay bx by' cx cy dx dy : Int) : Bool :=
  decide (mx (mn ax bx) (mn cx dx) ≤ mn (mx ax bx) (mx cx dx)) && decide (mx (mn ay by') (mn cy dy) ≤ mn (mx ay by') (mx cy dy))
def reachB (ax ay bx by' cx cy dx dy : Int) : Bool :=
  decide (mn (cross ax ay bx by' cx cy) (cross ax ay bx by' dx dy) ≤ 0) && decide (0 ≤ mx (cross ax ay bx by' cx cy) (cross ax ay bx by' dx dy))
def meet2B (ax ay bx by' cx cy dx dy : Int) : Bool := (boxB ax ay bx by' cx cy dx dy && reachB ax ay bx by' cx cy dx dy) && reachB cx cy dx dy ax ay bx by'

set_option maxHeartbeats 1000000 in
theorem box_any (ax ay bx by' cx cy dx dy : Int) (w : World) :
    Calls Try.prog 118 #[.agg #[.int .i64 ax, .int .i64 ay], .agg #[.int .i64 bx, .int .i64 by'], .agg #[.int .i64 cx, .int .i64 cy], .agg #[.int .i64 dx, .int .i64 dy]] w fun e w' =>
      e = .returned (.bool (boxB ax ay bx by' cx cy dx dy)) ∧ Below w.heap.size w w' := by
  have e : boxB ax ay bx by' cx cy dx dy = (decide (mx (mn ax bx) (mn cx dx) ≤ mn (mx ax bx) (mx cx dx)) && decide (mx (mn ay by') (mn cy dy) ≤ mn (mx ay by') (mx cy dy))) := rfl
  have H := Lib.hid e
  clear e
  generalize boxB ax ay bx by' cx cy dx dy = r at *
  go_enter Try.func118, Try.ntmps118
  go_wp2
  all_goals
    go_ret
    refine ⟨ret_bool ?_, by go_grown⟩
    rw [H.out]
    simp
    try omega

set_option maxHeartbeats 1000000 in
theorem reach_any (ax ay bx by' cx cy dx dy : Int) (w : World)
    (h1 : -60000 ≤ ax ∧ ax ≤ 60000) (h2 : -60000 ≤ ay ∧ ay ≤ 60000) (h3 : -60000 ≤ bx ∧ bx ≤ 60000) (h4 : -60000 ≤ by' ∧ by' ≤ 60000) (h5 : -60000 ≤ cx ∧ cx ≤ 60000) (h6 : -60000 ≤ cy ∧ cy ≤ 60000) (h7 : -60000 ≤ dx ∧ dx ≤ 60000) (h8 : -60000 ≤ dy ∧ dy ≤ 60000) :
    Calls Try.prog 119 #[.agg #[.int .i64 ax, .int .i64 ay], .agg #[.int .i64 bx, .int .i64 by'], .agg #[.int .i64 cx, .int .i64 cy], .agg #[.int .i64 dx, .int .i64 dy]] w fun e w' =>
      e = .returned (.bool (reachB ax ay bx by' cx cy dx dy)) ∧ Below w.heap.size w w' := by
  have C1 := fun W => Lib.hid (turn_any ax ay bx by' cx cy W h1 h2 h3 h4 h5 h6)
  have C2 := fun W => Lib.hid (turn_any ax ay bx by' dx dy W h1 h2 h3 h4 h7 h8)
  have e : reachB ax ay bx by' cx cy dx dy = (decide (mn (cross ax ay bx by' cx cy) (cross ax ay bx by' dx dy) ≤ 0) && decide (0 ≤ mx (cross ax ay bx by' cx cy) (cross ax ay bx by' dx dy))) := rfl
  have H := Lib.hid e
  clear e h1 h2 h3 h4 h5 h6 h7 h8
  generalize reachB ax ay bx by' cx cy dx dy = r at *
  generalize cross ax ay bx by' cx cy = u at *
  generalize cross ax ay bx by' dx dy = v at *
  go_enter Try.func119, Try.ntmps119
  go_wp2_with fail
  have B := boxed4 w ax ay bx by' cx cy dx dy
  generalize (((w.alloc (Go.Proofs.Ytnijcdphmibjaaa.bx ax ay)).alloc (Go.Proofs.Ytnijcdphmibjaaa.bx bx by')).alloc (Go.Proofs.Ytnijcdphmibjaaa.bx cx cy)).alloc (Go.Proofs.Ytnijcdphmibjaaa.bx dx dy) = wr at *
  obtain ⟨⟨a1, a2⟩, ⟨b1, b2⟩, ⟨c1, c2⟩, ⟨d1, d2⟩, hb, hz⟩ := B
  have HB := Lib.hid hb
  clear hz hb
  have K1 := fun d os => Lib.hid (Calls.regrown_of ((C1 (grow (redrawn wr d) os)).out))
  have K2 := fun d os => Lib.hid (Calls.regrown_of ((C2 (grow (redrawn wr d) os)).out))
  have t1 := cell_regrown a1
  have t2 := cell_regrown a2
  have t3 := cell_regrown b1
  have t4 := cell_regrown b2
  have t5 := cell_regrown c1
  have t6 := cell_regrown c2
  have t7 := cell_regrown d1
  have t8 := cell_regrown d2
  clear a1 a2 b1 b2 c1 c2 d1 d2 C1 C2
  refine wp_region_quiet_below (by kernel_rfl) (by kernel_rfl) ?_
  repeat (go_big_quiet_step (first | (with_reducible exact (K1 _ _).out) | (with_reducible exact (K2 _ _).out)))
  refine wpQuiet_nil ?_
  intro _ hw'
  obtain ⟨⟨dq, osq⟩, hw''⟩ := hw'
  subst hw''
  go_wp2
  all_goals
    go_ret
    refine ⟨ret_bool ?_, HB.out.trans ((below_regrown wr dq osq).mono HB.out.size)⟩
    rw [H.out]
    simp
    try omega

set_option maxHeartbeats 1000000 in
theorem meetD_any (ax ay bx by' cx cy dx dy : Int) (w : World)
    (h1 : -60000 ≤ ax ∧ ax ≤ 60000) (h2 : -60000 ≤ ay ∧ ay ≤ 60000) (h3 : -60000 ≤ bx ∧ bx ≤ 60000) (h4 : -60000 ≤ by' ∧ by' ≤ 60000) (h5 : -60000 ≤ cx ∧ cx ≤ 60000) (h6 : -60000 ≤ cy ∧ cy ≤ 60000) (h7 : -60000 ≤ dx ∧ dx ≤ 60000) (h8 : -60000 ≤ dy ∧ dy ≤ 60000) :
    Calls Try.prog 91 #[.agg #[.int .i64 ax, .int .i64 ay], .agg #[.int .i64 bx, .int .i64 by'], .agg #[.int .i64 cx, .int .i64 cy], .agg #[.int .i64 dx, .int .i64 dy]] w fun e w' =>
      e = .returned (.bool (meet2B ax ay bx by' cx cy dx dy)) ∧ Below w.heap.size w w' := by
  have C0 := fun W => Lib.hid (box_any ax ay bx by' cx cy dx dy W)
  have C1 := fun W => Lib.hid (reach_any ax ay bx by' cx cy dx dy W h1 h2 h3 h4 h5 h6 h7 h8)
  have C2 := fun W => Lib.hid (reach_any cx cy dx dy ax ay bx by' W h5 h6 h7 h8 h1 h2 h3 h4)
  have e : meet2B ax ay bx by' cx cy dx dy = ((boxB ax ay bx by' cx cy dx dy && reachB ax ay bx by' cx cy dx dy) && reachB cx cy dx dy ax ay bx by') := rfl
  have H := Lib.hid e
  clear e h1 h2 h3 h4 h5 h6 h7 h8
  generalize meet2B ax ay bx by' cx cy dx dy = r at *
  generalize boxB ax ay bx by' cx cy dx dy = x0 at *
  generalize reachB ax ay bx by' cx cy dx dy = x1 at *
  generalize reachB cx cy dx dy ax ay bx by' = x2 at *
  go_enter Try.func91, Try.ntmps91
  go_wp2_with fail
  have B := boxed4 w ax ay bx by' cx cy dx dy
  generalize (((w.alloc (Go.Proofs.Ytnijcdphmibjaaa.bx ax ay)).alloc (Go.Proofs.Ytnijcdphmibjaaa.bx bx by')).alloc (Go.Proofs.Ytnijcdphmibjaaa.bx cx cy)).alloc (Go.Proofs.Ytnijcdphmibjaaa.bx dx dy) = wr at *
  obtain ⟨P1, P2, P3, P4, hb, hz⟩ := B
  have l1 : w.heap.size < wr.heap.size ∧ w.heap.size + 1 < wr.heap.size ∧ w.heap.size + 1 + 1 < wr.heap.size ∧ w.heap.size + 1 + 1 + 1 < wr.heap.size := by omega
  refine ((C0 _).out).mono ?_
  rintro e w1 ⟨rfl, hb1⟩
  have Q1 := PtAt.below hb1 l1.1 P1
  have Q2 := PtAt.below hb1 l1.2.1 P2
  have Q3 := PtAt.below hb1 l1.2.2.1 P3
  have Q4 := PtAt.below hb1 l1.2.2.2 P4
  have hbw1 := hb.trans (hb1.mono hb.size)
  have hs1 := hb1.size
  clear P1 P2 P3 P4 hb1 hb hz
  cases x0
  · go_wp2
    go_ret
    exact ⟨ret_bool (by rw [H.out]; rfl), hbw1⟩
  · obtain ⟨a1, a2⟩ := Q1
    obtain ⟨b1, b2⟩ := Q2
    obtain ⟨c1, c2⟩ := Q3
    obtain ⟨d1, d2⟩ := Q4
    go_wp2_with fail
    refine ((C1 _).out).mono ?_
    rintro e w2 ⟨rfl, hb2⟩
    have Q1 := PtAt.below hb2 (by omega) ⟨a1, a2⟩
    have Q2 := PtAt.below hb2 (by omega) ⟨b1, b2⟩
    have Q3 := PtAt.below hb2 (by omega) ⟨c1, c2⟩
    have Q4 := PtAt.below hb2 (by omega) ⟨d1, d2⟩
    have hbw2 := hbw1.trans (hb2.mono hbw1.size)
    clear hb2 a1 a2 b1 b2 c1 c2 d1 d2
    cases x1
    · go_wp2
      go_ret
      exact ⟨ret_bool (by rw [H.out]; rfl), hbw2⟩
    · obtain ⟨a1, a2⟩ := Q1
      obtain ⟨b1, b2⟩ := Q2
      obtain ⟨c1, c2⟩ := Q3
      obtain ⟨d1, d2⟩ := Q4
      go_wp2_with fail
      refine ((C2 _).out).mono ?_
      rintro e w3 ⟨rfl, hb3⟩
      have hbw3 := hbw2.trans (hb3.mono hbw2.size)
      go_wp2
      go_ret
      exact ⟨ret_bool (by rw [H.out]; rfl), hbw3⟩
end Go.Proofs.Ytnijcdphmibjaaa
