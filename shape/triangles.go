package shape

import (
	"slices"

	"cracknel/api"
)

// triangulation cuts triangles off a simple polygon. There is always one to cut
// off, because a simple polygon of more than three points has an ear; without it
// the polygon is still simple.
func triangulation(p []api.Point) [][3]int {
	var rest []int
	for i := range len(p) {
		rest = append(rest, i)
	}
	if area2(p) < 0 {
		slices.Reverse(rest)
	}
	var out [][3]int
	for len(rest) > 2 {
		first := [3]int(rest)
		if !isEar(p, rest, first) {
			rest = append(rest[1:], rest[0])
			continue
		}
		rest = slices.Delete(rest, 1, 2)
		slices.Sort(first[:])
		out = append(out, first)
	}
	return out
}

// isEar reports whether three points of a simple polygon that follow each other,
// in counterclockwise order, are a triangle that has no other point of the rest
// within it or on its edges.
func isEar(p []api.Point, rest []int, three [3]int) bool {
	a, b, c := p[three[0]], p[three[1]], p[three[2]]
	isInWay := func(k int) bool {
		x := p[k]
		isOther := x != a && x != b && x != c
		return isOther && turn(a, b, x) >= 0 && turn(b, c, x) >= 0 && turn(c, a, x) >= 0
	}
	return turn(a, b, c) > 0 && !slices.ContainsFunc(rest, isInWay)
}

func isTriangulation(p []api.Point, triangles [][3]int) bool {
	if len(triangles) != len(p)-2 {
		return false
	}
	area := absolute(area2(p))
	var parts [][]api.Point
	for _, t := range triangles {
		if t[0] < 0 || t[0] >= t[1] || t[1] >= t[2] || t[2] >= len(p) {
			return false
		}
		part := hull([]api.Point{p[t[0]], p[t[1]], p[t[2]]})
		if len(part) < 3 {
			continue // Its area is 0.
		}
		overlaps := func(other []api.Point) bool { return !areApart(part, other) }
		if !isWithin(part, p) || slices.ContainsFunc(parts, overlaps) {
			return false
		}
		area -= area2(part)
		parts = append(parts, part)
	}
	return area == 0
}

// isWithin reports whether a triangle, in normal form, is within a simple
// polygon: no edge of the polygon passes through it, and its centre is inside.
func isWithin(triangle, p []api.Point) bool {
	thrice := make([]api.Point, len(p)) // so that the centre is a point, too
	for i := range len(p) {
		a, b := edge(p, i)
		if !areApart(triangle, []api.Point{a, b}) {
			return false
		}
		thrice[i] = api.Point{X: 3 * a.X, Y: 3 * a.Y}
	}
	return where(thrice, plus(triangle[0], plus(triangle[1], triangle[2]))) > 0
}
