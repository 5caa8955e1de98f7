/- Contracts of the reference's small functions. -/
import Derived.Test.YtnijcdphmibjaaaProg
import Derived.Test.YtnijcdphmibjaaaPure
import Derived.Test.YtnijcdphmibjaaaKit
import Derived.WalkKit
import Derived.WalkSpells
import Derived.WalkLawsBesides
import Derived.Handy
import Derived.Lib.Hide
namespace Go.Proofs.Ytnijcdphmibjaaa
open Go.RowKit
attribute [local go_sem ↓] run_min_mn run_max_mx

theorem in_any (v lo hi : Int) (w : World) :
    Calls Try.prog 63 #[.int .i64 v, .int .i64 lo, .int .i64 hi] w fun e w' => e = .returned (.bool (inB v lo hi)) ∧ w = w' := by
  go_enter Try.func63, Try.ntmps63
  go_wp2
  · rename_i h
    go_ret
    exact ⟨by simp [inB, h], rfl⟩
  · rename_i h
    go_ret
    exact ⟨by simp [inB]; omega, rfl⟩

theorem valid_any (x y lim : Int) (hl : 0 ≤ lim ∧ lim ≤ 1000000) (w : World) :
    Calls Try.prog 30 #[.agg #[.int .i64 x, .int .i64 y], .int .i64 lim] w fun e w' => e = .returned (.bool (validB x y lim)) ∧ Below w.heap.size w w' := by
  have b1 := hl.1
  have b2 := hl.2
  clear hl
  cases hx : inB x (-lim) lim
  · have H := Lib.hid hx
    clear hx
    go_enter Try.func30, Try.ntmps30
    go_wp2_with (go_at_call 63; refine (in_any _ _ _ _).mono ?_; rintro e w' ⟨rfl, rfl⟩; rw [H.out])
    go_ret
    exact ⟨by simp [validB, H.out], by go_grown⟩
  · have H := Lib.hid hx
    clear hx
    go_enter Try.func30, Try.ntmps30
    go_wp2_with (go_at_call 63; refine (in_any _ _ _ _).mono ?_; rintro e w' ⟨rfl, rfl⟩; try rw [H.out])
    go_ret
    exact ⟨by simp [validB, H.out], by go_grown⟩

theorem cross_any (ax ay bx by' cx cy : Int) (w : World)
    (h1 : -60000 ≤ ax ∧ ax ≤ 60000) (h2 : -60000 ≤ ay ∧ ay ≤ 60000) (h3 : -60000 ≤ bx ∧ bx ≤ 60000) (h4 : -60000 ≤ by' ∧ by' ≤ 60000) (h5 : -60000 ≤ cx ∧ cx ≤ 60000) (h6 : -60000 ≤ cy ∧ cy ≤ 60000) :
    Calls Try.prog 56 #[.agg #[.int .i64 ax, .int .i64 ay], .agg #[.int .i64 bx, .int .i64 by'], .agg #[.int .i64 cx, .int .i64 cy]] w fun e w' =>
      e = .returned (.int .i64 (cross ax ay bx by' cx cy)) ∧ Below w.heap.size w w' := by
  have p1 := mul_le_of_abs (a := bx - ax) (b := cy - ay) (K := 120000) (L := 120000) (by omega) (by omega)
  have p2 := mul_le_of_abs (a := cx - ax) (b := by' - ay) (K := 120000) (L := 120000) (by omega) (by omega)
  go_enter Try.func56, Try.ntmps56
  go_wp2
  go_ret
  exact ⟨rfl, by go_grown⟩

theorem sign_any (v : Int) (w : World) :
    Calls Try.prog 94 #[.int .i64 v] w fun e w' => e = .returned (.int .i64 (sgn v)) ∧ w = w' := by
  go_enter Try.func94, Try.ntmps94
  go_wp2
  · rename_i h
    go_ret
    exact ⟨by simp [sgn, h], rfl⟩
  · rename_i h h'
    go_ret
    exact ⟨ret_int (by rw [sgn, if_neg (by omega), if_pos h']), rfl⟩
  · rename_i h h'
    go_ret
    exact ⟨ret_int (by rw [sgn, if_neg (by omega), if_neg (by omega)]), rfl⟩

theorem sign_below (v : Int) (w : World) :
    Calls Try.prog 94 #[.int .i64 v] w fun e w' => e = .returned (.int .i64 (sgn v)) ∧ Below w.heap.size w w' :=
  (sign_any v w).mono fun _ _ ⟨he, hw⟩ => ⟨he, hw ▸ Below.refl _ _⟩

theorem first_any (ax ay bx by' : Int) (w : World) :
    Calls Try.prog 67 #[.agg #[.int .i64 ax, .int .i64 ay], .agg #[.int .i64 bx, .int .i64 by']] w fun e w' =>
      e = .returned (.bool (firstB ax ay bx by')) ∧ Below w.heap.size w w' := by
  go_enter Try.func67, Try.ntmps67
  go_wp2
  · rename_i h h'
    go_ret
    exact ⟨by subst h'; simp [firstB], by go_grown⟩
  · rename_i h h'
    go_ret
    exact ⟨by simp [firstB, h'], by go_grown⟩
  · rename_i h
    go_ret
    exact ⟨by simp [firstB, h], by go_grown⟩

theorem on_any (ax ay bx by' px py : Int) (w : World)
    (h1 : -60000 ≤ ax ∧ ax ≤ 60000) (h2 : -60000 ≤ ay ∧ ay ≤ 60000) (h3 : -60000 ≤ bx ∧ bx ≤ 60000) (h4 : -60000 ≤ by' ∧ by' ≤ 60000) (h5 : -60000 ≤ px ∧ px ≤ 60000) (h6 : -60000 ≤ py ∧ py ≤ 60000) :
    Calls Try.prog 65 #[.agg #[.int .i64 ax, .int .i64 ay], .agg #[.int .i64 bx, .int .i64 by'], .agg #[.int .i64 px, .int .i64 py]] w fun e w' =>
      e = .returned (.bool (onB ax ay bx by' px py)) ∧ Below w.heap.size w w' := by
  have C := fun W => Lib.hid (cross_any ax ay bx by' px py W h1 h2 h3 h4 h5 h6)
  clear h1 h2 h3 h4 h5 h6
  go_enter Try.func65, Try.ntmps65
  go_wp2_with fail
  refine ((C _).out).mono ?_
  rintro e w1 ⟨rfl, hb⟩
  obtain ⟨hc, hf⟩ := old_cells hb
  go_wp2_with (go_at_call 63; refine (in_any _ _ _ _).mono ?_; rintro e w' ⟨rfl, rfl⟩)
  · rename_i h1 h2
    go_ret
    exact ⟨ret_bool (by simp [onB, h1, h2]), (((Below.refl _ _).alloc (Nat.le_refl _) _).alloc (by simp) _).alloc (by simp; omega) _ |>.trans (hb.mono (by simp; omega))⟩
  · rename_i h1 h2
    go_ret
    exact ⟨ret_bool (by simp [onB, h2]), (((Below.refl _ _).alloc (Nat.le_refl _) _).alloc (by simp) _).alloc (by simp; omega) _ |>.trans (hb.mono (by simp; omega))⟩
  · rename_i h1
    go_ret
    exact ⟨ret_bool (by simp [onB, h1]), (((Below.refl _ _).alloc (Nat.le_refl _) _).alloc (by simp) _).alloc (by simp; omega) _ |>.trans (hb.mono (by simp; omega))⟩

end Go.Proofs.Ytnijcdphmibjaaa
