/- ShapeBrunn returns true for all two slices of points, and leaves them as they were: of the convex polygons that the law makes of them, the square root of the area of the sum is at least the sum of those of the two, said in integers. Conditions: the row's own. -/
import Derived.Test.YtfdoijjojaehaaaBr1
import Derived.Test.YtfdoijjojaehaaaBrunnFacts
import Derived.Test.YtfdoijjojaehaaaBr6
namespace Go.Proofs.Ytfdoijjojaehaaa

theorem shapeBrunn_holds : Rows.ShapeBrunnSaid :=
  shapeBrunn.over shapeBrunn.joined fun A0 n0 c0 xs0 A1 n1 c1 xs1 w h1 _ h3 h4 h5 k1 _ k3 k4 k5 =>
    brunn_law A0 n0 c0 xs0 A1 n1 c1 xs1 w h1 h3 h4 h5 k1 k3 k4 k5

end Go.Proofs.Ytfdoijjojaehaaa
#print axioms Go.Proofs.Ytfdoijjojaehaaa.shapeBrunn_holds
