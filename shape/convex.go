package shape

import (
	"slices"

	"cracknel/api"
)

// isConvex reports whether a polygon is convex in normal form.
func isConvex(p []api.Point) bool {
	for i := range len(p) {
		a, b := edge(p, i)
		_, next := edge(p, i+1)
		if turn(a, b, next) <= 0 || compare(a, p[0]) < 0 {
			return false
		}
	}
	return isSimple(p) // Or else it might go round more than once.
}

// checkConvex returns the first error of what must be polygons convex in normal
// form.
func checkConvex(polygons ...[]api.Point) api.Errno {
	for _, p := range polygons {
		if !isPolygon(p) {
			return api.ErrArg
		}
		if !isConvex(p) {
			return api.ErrForm
		}
	}
	return api.OK
}

// hull returns the convex hull of points in normal form, or less than three
// points if all of them are on one line.
func hull(points []api.Point) []api.Point {
	sorted := slices.Clone(points)
	slices.SortFunc(sorted, compare)
	upward := chain(sorted)
	slices.Reverse(sorted)
	downward := chain(sorted)
	return append(upward[:len(upward)-1], downward[:len(downward)-1]...)
}

// chain returns the points, from the first one to the last one, at which the
// hull of sorted points turns to the left. One that occurs again is no turn.
func chain(sorted []api.Point) []api.Point {
	var out []api.Point
	for _, x := range sorted {
		for len(out) > 1 && turn(out[len(out)-2], out[len(out)-1], x) <= 0 {
			out = out[:len(out)-1]
		}
		out = append(out, x)
	}
	return out
}

func negative(a []api.Point) []api.Point {
	out := make([]api.Point, len(a))
	for i, x := range a {
		out[i] = minus(api.Point{}, x)
	}
	return hull(out)
}

// moved returns a polygon moved by a vector.
func moved(p []api.Point, by api.Point) []api.Point {
	out := make([]api.Point, len(p))
	for i, x := range p {
		out[i] = plus(x, by)
	}
	return out
}

// sum returns the Minkowski sum of polygons that are convex in normal form: the
// edges of both in the order of their directions, which rise from 0, because both
// begin at their lowest point. The next edge of either one is less than half a
// turn beyond the edge before, so that their cross product says which one comes
// first, or that they become one edge.
func sum(a, b []api.Point) []api.Point {
	var out []api.Point
	for i, j := 0, 0; i < len(a) || j < len(b); {
		fromA, toA := edge(a, i)
		fromB, toB := edge(b, j)
		out = append(out, plus(fromA, fromB))
		order := cross(minus(toA, fromA), minus(toB, fromB))
		if order >= 0 {
			i++
		}
		if order <= 0 {
			j++
		}
	}
	return out
}

// areApart reports whether the interiors of convex polygons in counterclockwise
// order have no point in common. One of them may be an edge, as its two points:
// then it reports whether the edge does not pass through the other one's interior.
func areApart(a, b []api.Point) bool { return hasBeyond(a, b) || hasBeyond(b, a) }

// hasBeyond reports whether an edge of a has no point of b to its left. If no
// edge of either of two polygons has all of the other one beyond it, they
// overlap, because the edges of a's sum with b's negative are parallel to these.
func hasBeyond(a, b []api.Point) bool {
	for i := range len(a) {
		from, to := edge(a, i)
		isLeft := func(x api.Point) bool { return turn(from, to, x) > 0 }
		if !slices.ContainsFunc(b, isLeft) {
			return true
		}
	}
	return false
}
