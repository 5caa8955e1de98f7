/- ShapeWheres returns true for all slices of points and all points, and leaves the slice as it was: Where returns whether a point is inside a simple polygon, on an edge or outside, or the error that the document names. Conditions: the row's own. -/
import Derived.Test.YtnijcdphmibjaaaWheresFrame
import Derived.Test.YtnijcdphmibjaaaWheresFacts
import Derived.Test.YtnijcdphmibjaaaWheresLaw
namespace Go.Proofs.Ytnijcdphmibjaaa

theorem shapeWheres_holds : Rows.ShapeWheresSaid :=
  shapeWheres.over shapeWheres.joined fun A0 n0 c0 xs0 a1 b1 w h1 h2 h3 _ h5 _ _ => wheres_law A0 n0 c0 xs0 a1 b1 w h1 h2 h3 h5

end Go.Proofs.Ytnijcdphmibjaaa
#print axioms Go.Proofs.Ytnijcdphmibjaaa.shapeWheres_holds
