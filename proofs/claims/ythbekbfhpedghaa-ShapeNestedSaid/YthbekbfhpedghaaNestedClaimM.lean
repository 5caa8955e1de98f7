/- ShapeNested returns true for all sizes, all slices of slices of points and all points, and leaves the slices as they were: what Nest places lies in the sheet, apart, and no vector that is tried fits before the one that is chosen. Conditions: the row's own. -/
import Derived.Test.YthbekbfhpedghaaNd1
import Derived.Test.YthbekbfhpedghaaNestedFacts
import Derived.Test.YthbekbfhpedghaaNd8
namespace Go.Proofs.Ythbekbfhpedghaa

theorem bounds_u8 {a : Int} (h : (Lit.int .u8 a).wf = true) : 0 ≤ a ∧ a ≤ 255 := by
  simp [Lit.wf, IntKind.min, IntKind.max, IntKind.signed, IntKind.bits] at h
  omega
theorem shapeNested_holds : Rows.ShapeNestedSaid :=
  shapeNested.over shapeNested.joined fun a0 b0 A1 n1 c1 xs1 a2 b2 w h1 h2 h3 _ h5 h6 h7 h8 =>
    nested_law sortsPts reversesPts a0 b0 A1 n1 c1 xs1 a2 b2 w h3 h5 h6 (bounds_u8 h1) (bounds_u8 h2) (bounds_i64 h7) (bounds_i64 h8)

end Go.Proofs.Ythbekbfhpedghaa
#print axioms Go.Proofs.Ythbekbfhpedghaa.shapeNested_holds
