/- ShapeNests returns true for all sizes and all slices of slices of points, and leaves these as they were: Nest places convex polygons as far to the bottom, and then to the left, as possible, or returns the error that the document names. Conditions: the row's own. -/
import Derived.Test.YthbekbfhpedghaaNe1
import Derived.Test.YthbekbfhpedghaaNestsFacts
import Derived.Test.YthbekbfhpedghaaNe7
namespace Go.Proofs.Ythbekbfhpedghaa

theorem shapeNests_holds : Rows.ShapeNestsSaid :=
  shapeNests.over shapeNests.joined fun a0 b0 A1 n1 c1 xs1 w h1 h2 h3 _ h5 h6 =>
    nests_law sortsPts reversesPts a0 b0 A1 n1 c1 xs1 w h3 h5 h6 (bounds_i64 h1) (bounds_i64 h2)

end Go.Proofs.Ythbekbfhpedghaa
#print axioms Go.Proofs.Ythbekbfhpedghaa.shapeNests_holds
