/- ShapeSums returns true for all two slices of points, and leaves them as they were: Sum returns the Minkowski sum of two convex polygons, and Negative the polygon of all points -x, or the errors that the document names. Conditions: the row's own. -/
import Derived.Test.YtlmdmgbhfoehgaaSu1
import Derived.Test.YtlmdmgbhfoehgaaSumsFacts
import Derived.Test.YtlmdmgbhfoehgaaSu7
namespace Go.Proofs.Ytlmdmgbhfoehgaa

theorem shapeSums_holds : Rows.ShapeSumsSaid :=
  shapeSums.over shapeSums.joined fun A0 n0 c0 xs0 A1 n1 c1 xs1 w h1 h2 h3 _ h5 k1 k2 k3 _ k5 =>
    sums_law sortsPts reversesPts A0 n0 c0 xs0 A1 n1 c1 xs1 w h1 h2 h3 h5 k1 k2 k3 k5

end Go.Proofs.Ytlmdmgbhfoehgaa
#print axioms Go.Proofs.Ytlmdmgbhfoehgaa.shapeSums_holds
