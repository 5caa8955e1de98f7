/- Bags: whole.Bags where the sizes or the total are wrong. -/
import Derived.Test.YthboolnacmpmlaaGreatDoorBagBags
namespace Go.Proofs.YthboolnacmpmlaaGreatDoor
open Go.RowKit Go.Sort Bag

set_option maxHeartbeats 1000000 in
set_option maxRecDepth 100000 in
theorem bags_nosizes (A : Option Addr) (n c : Nat) (xs : List Int) (a : Int) (w : World) (hn : xs.length = n) (hbig : n ≤ 1000) (hx : Ints w A xs) (hs : sizesB xs = false) (ha : -9223372036854775808 ≤ a ∧ a ≤ 9223372036854775807) :
    Calls Tryz.prog 8 #[.slice A n c, .int .i64 a] w fun e w' => e = .returned (.tuple #[.slice none 0 0, .int .i64 1]) ∧ Below w.heap.size w w' := by
  have K := Lib.hid (areSizes_any A n c xs w hn (by omega) hx)
  have HS := Lib.hid hs
  clear hn hx hs
  go_enter Tryz.func8, Tryz.ntmps8
  go_wp2_with (go_at_call 21; refine ((K).out).mono ?_; rintro e w' ⟨rfl, rfl⟩; rw [HS.out])
  go_ret2
  exact ⟨rfl, Below.refl _ _⟩

set_option maxHeartbeats 1000000 in
set_option maxRecDepth 100000 in
theorem bags_range (A : Option Addr) (n c : Nat) (xs : List Int) (a : Int) (w : World) (hn : xs.length = n) (hbig : n ≤ 1000) (hx : Ints w A xs) (hs : sizesB xs = true) (ha : -9223372036854775808 ≤ a ∧ a ≤ 9223372036854775807) (hr : a < 0 ∨ 1000000 < a) :
    Calls Tryz.prog 8 #[.slice A n c, .int .i64 a] w fun e w' => e = .returned (.tuple #[.slice none 0 0, .int .i64 1]) ∧ Below w.heap.size w w' := by
  have K := Lib.hid (areSizes_any A n c xs w hn (by omega) hx)
  have HS := Lib.hid hs
  clear hn hx hs
  rcases hr with hr | hr
  · go_enter Tryz.func8, Tryz.ntmps8
    go_wp2_with (go_at_call 21; refine ((K).out).mono ?_; rintro e w' ⟨rfl, rfl⟩; rw [HS.out])
    go_ret2
    exact ⟨rfl, Below.refl _ _⟩
  · go_enter Tryz.func8, Tryz.ntmps8
    go_wp2_with (go_at_call 21; refine ((K).out).mono ?_; rintro e w' ⟨rfl, rfl⟩; rw [HS.out])
    go_ret2
    exact ⟨rfl, Below.refl _ _⟩

end Go.Proofs.YthboolnacmpmlaaGreatDoor
