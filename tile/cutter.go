package tile

import (
	"cmp"
	"slices"

	"cracknel/api"
)

func isCutter(c api.Cutter) bool {
	if len(c.Cells) < 1 || len(c.Cells) > api.MaxCells {
		return false
	}
	var seen cells
	for _, x := range c.Cells {
		// What a sheet may have is also what a cutter may have.
		if !isInside(x, api.MaxSide, api.MaxSide) || seen.has(x) {
			return false
		}
		seen = seen.with(x)
	}
	return true
}

// orientations returns the orientations of a cutter, each one with its cells in
// order.
func orientations(c api.Cutter) [][]api.Point {
	sides, turns := 1, 1
	if c.Flip {
		sides = 2
	}
	if c.Turn {
		turns = 4
	}
	var out [][]api.Point
	side := c.Cells
	for range sides {
		way := side
		for range turns {
			if next := settled(way); !slices.ContainsFunc(out, isSame(next)) {
				out = append(out, next)
			}
			way = mapped(way, func(x api.Point) api.Point { return api.Point{X: -x.Y, Y: x.X} })
		}
		side = mapped(side, func(x api.Point) api.Point { return api.Point{X: -x.X, Y: x.Y} })
	}
	return out
}

func isSame(a []api.Point) func(b []api.Point) bool {
	return func(b []api.Point) bool { return slices.Equal(a, b) }
}

func mapped(points []api.Point, to func(api.Point) api.Point) []api.Point {
	out := make([]api.Point, len(points))
	for i, x := range points {
		out[i] = to(x)
	}
	return out
}

// settled returns points in order, moved such that the first one becomes (0, 0).
func settled(points []api.Point) []api.Point {
	first := slices.MinFunc(points, compare)
	out := mapped(points, func(x api.Point) api.Point { return api.Point{X: x.X - first.X, Y: x.Y - first.Y} })
	slices.SortFunc(out, compare)
	return out
}

// compare orders points by Y and then by X.
func compare(a, b api.Point) int { return cmp.Or(cmp.Compare(a.Y, b.Y), cmp.Compare(a.X, b.X)) }
