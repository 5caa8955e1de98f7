package shape

import (
	"slices"

	"cracknel/api"
)

// arePoints reports whether there are that many points or more, as far as a
// polygon may have them, and all of them are valid.
func arePoints(points []api.Point, least int) bool {
	isFar := func(x api.Point) bool { return !isNear(x, api.MaxCoord) }
	return least <= len(points) && len(points) <= api.MaxCorners && !slices.ContainsFunc(points, isFar)
}

func isPolygon(p []api.Point) bool { return arePoints(p, 3) }

// checkSimple returns the error of what must be a simple polygon.
func checkSimple(p []api.Point) api.Errno {
	if !isPolygon(p) {
		return api.ErrArg
	}
	if !isSimple(p) {
		return api.ErrForm
	}
	return api.OK
}

// edge returns the points between which an edge of a polygon leads. The edge
// after the last one is the first one.
func edge(p []api.Point, i int) (api.Point, api.Point) {
	return p[i%len(p)], p[(i+1)%len(p)]
}

func area2(p []api.Point) int {
	sum := 0
	for i := range len(p) {
		sum += cross(edge(p, i))
	}
	return sum
}

func isSimple(p []api.Point) bool {
	for i := range len(p) {
		a, b := edge(p, i)
		_, next := edge(p, i+1)
		if a == b || turnsBack(a, b, next) {
			return false
		}
		for j := range i - 1 {
			// The last edge is followed by the first one.
			isNeighbour := i-j == len(p)-1
			if c, d := edge(p, j); !isNeighbour && meet(a, b, c, d) {
				return false
			}
		}
	}
	return true
}

// where returns 1 for the interior of a simple polygon, 0 for its edges, and -1
// for what is outside.
func where(p []api.Point, at api.Point) int {
	side := -1
	for i := range len(p) {
		a, b := edge(p, i)
		if isOn(at, a, b) {
			return 0
		}
		if isToTheLeft(at, a, b) {
			side = -side
		}
	}
	return side
}

// isToTheLeft reports whether the edge from a to b is hit by who goes from a
// point, which is not on it, to the right. Of a horizontal line the edge's lower
// end counts and the upper one does not, so that a corner is hit once or, where
// the polygon does not pass to the other side, twice or never.
func isToTheLeft(at, a, b api.Point) bool {
	isUpward := b.Y > a.Y
	return (a.Y > at.Y) != (b.Y > at.Y) && (turn(a, b, at) > 0) == isUpward
}

// borderPoints returns how many points with integer coordinates are on the edges
// of a simple polygon.
func borderPoints(p []api.Point) int {
	count := 0
	for i := range len(p) {
		a, b := edge(p, i)
		count += divisor(absolute(b.X-a.X), absolute(b.Y-a.Y))
	}
	return count
}

func absolute(n int) int { return max(n, -n) }

// divisor returns the greatest common divisor of two numbers, one of which may
// be 0.
func divisor(a, b int) int {
	for b > 0 {
		a, b = b, a%b
	}
	return a
}
