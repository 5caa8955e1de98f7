/- ShapeMinkowski returns true for all three slices of points, and leaves them as they were: of the convex polygons that the law makes of them, Sum is commutative and associative, the area of Sum(a, a) is four times that of a, and Negative twice is the polygon itself. Conditions: the row's own. -/
import Derived.Test.YtlmdmgbhfoehgaaMk1
import Derived.Test.YtlmdmgbhfoehgaaMinkFacts
import Derived.Test.YtlmdmgbhfoehgaaMk6
namespace Go.Proofs.Ytlmdmgbhfoehgaa

theorem shapeMinkowski_holds : Rows.ShapeMinkowskiSaid :=
  shapeMinkowski.over shapeMinkowski.joined fun A0 n0 c0 xs0 A1 n1 c1 xs1 A2 n2 c2 xs2 w h1 _ h3 h4 h5 k1 _ k3 k4 k5 l1 _ l3 l4 l5 =>
    minkowski_law sortsPts reversesPts A0 n0 c0 xs0 A1 n1 c1 xs1 A2 n2 c2 xs2 w h1 h3 h4 h5 k1 k3 k4 k5 l1 l3 l4 l5

end Go.Proofs.Ytlmdmgbhfoehgaa
#print axioms Go.Proofs.Ytlmdmgbhfoehgaa.shapeMinkowski_holds
