package shape

import (
	"slices"

	"cracknel/api"
)

func nest(w, h int, shapes [][]api.Point) []api.Placed {
	var out []api.Placed
	var placed [][]api.Point
	for i, shape := range shapes {
		least, greatest := box(shape)
		shape = moved(shape, minus(api.Point{}, least))
		size := minus(greatest, least)
		room := api.Point{X: w - size.X, Y: h - size.Y}
		if at, hasPlace := place(room, shape, placed); hasPlace {
			out = append(out, api.Placed{Shape: i, At: at})
			placed = append(placed, moved(shape, at))
		}
	}
	return out
}

// box returns the lower left and the upper right corner of the upright rectangle
// about a polygon.
func box(p []api.Point) (api.Point, api.Point) {
	least, greatest := p[0], p[0]
	for _, x := range p {
		least = api.Point{X: min(least.X, x.X), Y: min(least.Y, x.Y)}
		greatest = api.Point{X: max(greatest.X, x.X), Y: max(greatest.Y, x.Y)}
	}
	return least, greatest
}

// place returns the lowest vector, and of several the one farthest to the left,
// by which a shape can be moved without an overlap: from 0 to the room that it
// has, and outside the no-fit polygons of what is placed.
func place(room api.Point, shape []api.Point, placed [][]api.Point) (api.Point, bool) {
	reflected := negative(shape)
	var noFit [][]api.Point
	for _, other := range placed {
		noFit = append(noFit, sum(other, reflected))
	}
	for y := range room.Y + 1 {
		for x := range room.X + 1 {
			at := api.Point{X: x, Y: y}
			overlaps := func(p []api.Point) bool { return where(p, at) > 0 }
			if !slices.ContainsFunc(noFit, overlaps) {
				return at, true
			}
		}
	}
	return api.Point{}, false
}
