/- ShapeAparts returns true for all slices of points and all vectors, and leaves the slices as they were: Apart reports whether two convex polygons, one of them moved, have no inner point in common, or returns the error that the document names. Conditions: the row's own. -/
import Derived.Test.YtnijcdphmibjaaaApartsFrame
import Derived.Test.YtnijcdphmibjaaaApartsFacts
import Derived.Test.YtnijcdphmibjaaaApartsLaw
namespace Go.Proofs.Ytnijcdphmibjaaa

theorem shapeAparts_holds : Rows.ShapeApartsSaid :=
  shapeAparts.over shapeAparts.joined fun A0 n0 c0 xs0 A1 n1 c1 xs1 a b w h1 h2 h3 _ h5 k1 k2 k3 _ k5 _ _ => aparts_law A0 n0 c0 xs0 A1 n1 c1 xs1 a b w h1 h2 h3 h5 k1 k2 k3 k5

end Go.Proofs.Ytnijcdphmibjaaa
#print axioms Go.Proofs.Ytnijcdphmibjaaa.shapeAparts_holds
