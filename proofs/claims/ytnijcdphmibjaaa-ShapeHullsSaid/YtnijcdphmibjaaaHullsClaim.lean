/- ShapeHulls returns true for all slices of points, and leaves the slice as it was: Hull returns the convex hull of any points, or the error that the document names. Conditions: the row's own. -/
import Derived.Test.YtnijcdphmibjaaaHullsFrame
import Derived.Test.YtnijcdphmibjaaaHullsFacts
import Derived.Test.YtnijcdphmibjaaaHullsLaw
import Derived.Test.YtnijcdphmibjaaaHullsSort
namespace Go.Proofs.Ytnijcdphmibjaaa

theorem shapeHulls_holds : Rows.ShapeHullsSaid :=
  shapeHulls.over shapeHulls.joined fun A0 n0 c0 xs0 w h1 h2 h3 _ h5 => hulls_law sortsPts reversesPts A0 n0 c0 xs0 w h1 h2 h3 h5

end Go.Proofs.Ytnijcdphmibjaaa
#print axioms Go.Proofs.Ytnijcdphmibjaaa.shapeHulls_holds
