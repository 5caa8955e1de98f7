/- ShapeNoFit returns true for all two slices of points and all vectors, and leaves the slices as they were: the convex polygons that the law makes of them, one of them moved by the vector, overlap exactly if the vector is in the interior of the sum of the one and the other's negative. Conditions: the row's own. -/
import Derived.Test.YtlmdmgbhfoehgaaNf1
import Derived.Test.YtlmdmgbhfoehgaaNoFitFacts
import Derived.Test.YtlmdmgbhfoehgaaNf6
namespace Go.Proofs.Ytlmdmgbhfoehgaa

theorem shapeNoFit_holds : Rows.ShapeNoFitSaid :=
  shapeNoFit.over shapeNoFit.joined fun A0 n0 c0 xs0 A1 n1 c1 xs1 px py w h1 _ h3 h4 h5 k1 _ k3 k4 k5 _ _ =>
    nofit_law sortsPts reversesPts A0 n0 c0 xs0 A1 n1 c1 xs1 px py w h1 h3 h4 h5 k1 k3 k4 k5

end Go.Proofs.Ytlmdmgbhfoehgaa
#print axioms Go.Proofs.Ytlmdmgbhfoehgaa.shapeNoFit_holds
