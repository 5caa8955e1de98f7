/- ShapeHulled returns true for all slices of points and all numbers, and leaves the slice as it was: every point is inside the hull or on its edges, its corners are some of the points, the hull of its corners is itself, and it does not depend on the order. Conditions: the row's own. -/
import Derived.Test.YtnijcdphmibjaaaHulledFrame
import Derived.Test.YtnijcdphmibjaaaHulledFacts
import Derived.Test.YtnijcdphmibjaaaHulledLaw
import Derived.Test.YtnijcdphmibjaaaHullsSort
namespace Go.Proofs.Ytnijcdphmibjaaa

theorem shapeHulled_holds : Rows.ShapeHulledSaid :=
  shapeHulled.over shapeHulled.joined fun A0 n0 c0 xs0 a1 w h1 _ h3 h4 h5 ha => hulled_law sortsPts reversesPts A0 n0 c0 xs0 a1 w h1 h3 h5 h4 (bounds_i64 ha)

end Go.Proofs.Ytnijcdphmibjaaa
#print axioms Go.Proofs.Ytnijcdphmibjaaa.shapeHulled_holds
