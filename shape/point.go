package shape

import (
	"cmp"

	"cracknel/api"
)

// isNear reports whether no coordinate of a point is beyond a limit.
func isNear(at api.Point, limit int) bool {
	return -limit <= min(at.X, at.Y) && max(at.X, at.Y) <= limit
}

func plus(a, b api.Point) api.Point { return api.Point{X: a.X + b.X, Y: a.Y + b.Y} }

func minus(a, b api.Point) api.Point { return api.Point{X: a.X - b.X, Y: a.Y - b.Y} }

// cross returns the area of the parallelogram of two vectors: above 0 if the
// second one is to the left of the first one.
func cross(a, b api.Point) int { return a.X*b.Y - b.X*a.Y }

// turn returns twice the area of a triangle: above 0 if c is to the left of the
// line from a to b.
func turn(a, b, c api.Point) int { return cross(minus(b, a), minus(c, a)) }

// compare orders points from below, and those of the same height from the left.
func compare(a, b api.Point) int {
	return cmp.Or(cmp.Compare(a.Y, b.Y), cmp.Compare(a.X, b.X))
}

// isOn reports whether a point is on the edge from a to b.
func isOn(at, a, b api.Point) bool {
	return turn(a, b, at) == 0 && haveCommonBox(at, at, a, b)
}

// turnsBack reports whether the edges from a to b and from b to c have more in
// common than b.
func turnsBack(a, b, c api.Point) bool {
	back, on := minus(a, b), minus(c, b)
	return cross(back, on) == 0 && back.X*on.X+back.Y*on.Y > 0
}

// meet reports whether the edges from a to b and from c to d have a point in
// common. The boxes decide if both edges are on one line.
func meet(a, b, c, d api.Point) bool {
	return haveCommonBox(a, b, c, d) && reaches(a, b, c, d) && reaches(c, d, a, b)
}

// reaches reports whether the edge from c to d has a point on the line through a
// and b.
func reaches(a, b, c, d api.Point) bool {
	from, to := turn(a, b, c), turn(a, b, d)
	return min(from, to) <= 0 && max(from, to) >= 0
}

// haveCommonBox reports whether the upright rectangles about a and b and about c
// and d have a point in common.
func haveCommonBox(a, b, c, d api.Point) bool {
	return max(min(a.X, b.X), min(c.X, d.X)) <= min(max(a.X, b.X), max(c.X, d.X)) &&
		max(min(a.Y, b.Y), min(c.Y, d.Y)) <= min(max(a.Y, b.Y), max(c.Y, d.Y))
}
