/- ShapeAreas returns true for all slices of points, and leaves the slice as it was: Area2, Simple and Convex return what the document says of any points, or ErrArg. Conditions: the row's own. -/
import Derived.Test.YtnijcdphmibjaaaAreasFrame
import Derived.Test.YtnijcdphmibjaaaAreasFacts
import Derived.Test.YtnijcdphmibjaaaAreasLaw
namespace Go.Proofs.Ytnijcdphmibjaaa

theorem shapeAreas_holds : Rows.ShapeAreasSaid :=
  shapeAreas.over shapeAreas.joined fun A0 n0 c0 xs0 w h1 h2 h3 _ h5 => areas_law A0 n0 c0 xs0 w h1 h2 h3 h5

end Go.Proofs.Ytnijcdphmibjaaa
#print axioms Go.Proofs.Ytnijcdphmibjaaa.shapeAreas_holds
