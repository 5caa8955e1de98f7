/- How package shape compares points. -/
import Derived.Test.YtnijcdphmibjaaaDevBox
import Derived.Deep.RegionHeld3
import Derived.Deep.DrawnRows
import Derived.Deep.DeepCutAuto
import Derived.StillTailTactics
namespace Go.Proofs.Ytnijcdphmibjaaa
open Go.RowKit Go.Sort
attribute [local go_sem ↓] run_min_mn run_max_mx

def cmpI (x y : Int) : Int := if x < y then -1 else if y < x then 1 else 0
def orI (x y : Int) : Int := if x = 0 then y else x
def cmpP (ax ay bx by' : Int) : Int := orI (cmpI ay by') (cmpI ax bx)

theorem nan_any (x : Int) (w : World) : Calls Try.prog 131 #[.int .i64 x] w fun e w' => e = .returned (.bool false) ∧ w = w' := by
  go_enter Try.func131, Try.ntmps131
  go_wp2
  go_ret
  exact ⟨rfl, rfl⟩

theorem cmpI_any (x y : Int) (w : World) : Calls Try.prog 121 #[.int .i64 x, .int .i64 y] w fun e w' => e = .returned (.int .i64 (cmpI x y)) ∧ w = w' := by
  go_enter Try.func121, Try.ntmps121
  go_wp2_with (go_at_call 131; refine (nan_any _ _).mono ?_; rintro e w' ⟨rfl, rfl⟩)
  · rename_i h
    go_ret
    exact ⟨ret_int (by rw [cmpI, if_pos h]), rfl⟩
  · rename_i h h'
    go_ret
    exact ⟨ret_int (by rw [cmpI, if_neg (by omega), if_pos (by omega)]), rfl⟩
  · rename_i h h'
    go_ret
    exact ⟨ret_int (by rw [cmpI, if_neg (by omega), if_neg (by omega)]), rfl⟩

theorem or_any (g : Nat) (u v : Int) (w : World) (h0 : w.cell? ⟨g, 0, none⟩ = some (.int .i64 u)) (h1 : w.cell? ⟨g, 1, none⟩ = some (.int .i64 v)) :
    Calls Try.prog 120 #[.slice (some ⟨g, 0, none⟩) 2 2] w fun e w' => e = .returned (.int .i64 (orI u v)) ∧ w = w' := by
  by_cases hu : u = 0
  · subst hu
    by_cases hv : v = 0
    · subst hv
      go_enter Try.func120, Try.ntmps120
      go_wp2
      refine wp_loop_rounds 3 ?_; rw [rounds_succ]
      go_wp2
      rw [rounds_succ]
      go_wp2
      try (rw [rounds_succ]; go_wp2)
      go_ret
      exact ⟨ret_int rfl, rfl⟩
    · have hv' : (v != 0) = true := by simpa using hv
      clear hv
      go_enter Try.func120, Try.ntmps120
      go_wp2
      refine wp_loop_rounds 3 ?_; rw [rounds_succ]
      go_wp2
      rw [rounds_succ]
      go_wp2
      try (rw [rounds_succ]; go_wp2)
      go_ret
      exact ⟨ret_int rfl, rfl⟩
  · have hu' : (u != 0) = true := by simpa using hu
    have H : Hid (orI u v = u) := Lib.hid (by rw [orI, if_neg hu])
    clear hu
    go_enter Try.func120, Try.ntmps120
    go_wp2
    refine wp_loop_rounds 2 ?_; rw [rounds_succ]
    go_wp2
    go_ret
    exact ⟨ret_int H.out.symm, rfl⟩

set_option maxRecDepth 100000 in
set_option maxHeartbeats 1000000 in
theorem compare_any (ax ay bx by' : Int) (w : World) :
    Calls Try.prog 93 #[.agg #[.int .i64 ax, .int .i64 ay], .agg #[.int .i64 bx, .int .i64 by']] w fun e w' =>
      e = .returned (.int .i64 (cmpP ax ay bx by')) ∧ Below w.heap.size w w' := by
  have C1 := fun W => Lib.hid ((cmpI_any ay by' W).mono fun _ _ h => And.intro h.1 h.2.symm)
  have C2 := fun W => Lib.hid ((cmpI_any ax bx W).mono fun _ _ h => And.intro h.1 h.2.symm)
  have H : Hid (cmpP ax ay bx by' = orI (cmpI ay by') (cmpI ax bx)) := Lib.hid rfl
  generalize cmpI ay by' = u at *
  generalize cmpI ax bx = v at *
  generalize cmpP ax ay bx by' = r at *
  go_enter Try.func93, Try.ntmps93
  go_wp2_with fail
  have B := boxed2 w ax ay bx by'
  generalize ((w.alloc (Go.Proofs.Ytnijcdphmibjaaa.bx ax ay)).alloc (Go.Proofs.Ytnijcdphmibjaaa.bx bx by')) = W0 at *
  obtain ⟨⟨a1, a2⟩, ⟨b1, b2⟩, hb, hz⟩ := B
  have HB := Lib.hid hb
  have hz' := hb.size
  clear hb hz
  refine wp_region_still_tail 10 (by kernel_rfl) (by kernel_rfl) ?_
  simp only [List.take_succ_cons, List.take_zero, List.drop_succ_cons, List.drop_zero]
  change wpStill _ _ W0.drew _ _ _
  replace a1 : W0.drew.cell? _ = _ := a1
  replace a2 : W0.drew.cell? _ = _ := a2
  replace b1 : W0.drew.cell? _ = _ := b1
  replace b2 : W0.drew.cell? _ = _ := b2
  iterate 4 still_step
  still_call (C1 _).out
  iterate 4 still_step
  still_call (C2 _).out
  refine wpStill_nil ?_
  change wpList _ _ _ _ _ W0.drew
  go_wp2_with fail
  refine (or_any _ u v _ (by go_simp) (by go_simp)).mono ?_
  rintro e w' ⟨rfl, rfl⟩
  go_wp2
  go_ret
  exact ⟨ret_int H.out.symm, HB.out.drew.alloc (by simpa using hz') _⟩

end Go.Proofs.Ytnijcdphmibjaaa
