/- TopPlaced returns true for all sizes and all slices of slices of points, and leaves the slices as they were: of all shapes that Nest places the areas add up to at most the sheet's, no two of them overlap, and no lattice point is in the interior of two. Conditions: the row's own. -/
import Derived.Test.YtffjonpajjioaaaTp1
import Derived.Test.YtffjonpajjioaaaPlacedFacts
import Derived.Test.YtffjonpajjioaaaTp8
import Derived.Test.YtffjonpajjioaaaTp9
namespace Go.Proofs.Ytffjonpajjioaaa

theorem bounds_u8 {a : Int} (h : (Lit.int .u8 a).wf = true) : 0 ≤ a ∧ a ≤ 255 := by
  simp [Lit.wf, IntKind.min, IntKind.max, IntKind.signed, IntKind.bits] at h
  omega
theorem topPlaced_holds : Rows.TopPlacedSaid :=
  topPlaced.over topPlaced.joined fun a0 b0 A1 n1 c1 xs1 w h1 h2 h3 _ h5 h6 =>
    placed_law sortsPts reversesPts a0 b0 A1 n1 c1 xs1 w h3 h5 h6 (bounds_u8 h1) (bounds_u8 h2)

end Go.Proofs.Ytffjonpajjioaaa
#print axioms Go.Proofs.Ytffjonpajjioaaa.topPlaced_holds
