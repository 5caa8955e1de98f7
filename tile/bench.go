package tile

import (
	"slices"

	"cracknel/api"
)

// A piece is a laid cutter, and what it covers.
type piece struct {
	laid  api.Laid
	cells cells
}

// A bench is a sheet with the cutters for it.
type bench struct {
	free   cells
	pieces []piece // all that can be laid, by At, then by Cutter, then by Way
}

// newBench returns false unless the sheet and the cutters are valid.
func newBench(s api.Sheet, cutters []api.Cutter) (bench, bool) {
	free, ok := freeCells(s)
	if !ok || len(cutters) < 1 || len(cutters) > api.MaxCutters {
		return bench{}, false
	}
	b := bench{free: free}
	var ways [][][]api.Point
	for _, c := range cutters {
		if !isCutter(c) {
			return bench{}, false
		}
		ways = append(ways, orientations(c))
	}
	for at := range free.all {
		for cutter := range ways {
			for way, shape := range ways[cutter] {
				if covered, ok := free.under(shape, at); ok {
					b.pieces = append(b.pieces, piece{api.Laid{Cutter: cutter, Way: way, At: at}, covered})
				}
			}
		}
	}
	return b, true
}

// freeCells returns the free cells of a sheet, or false unless it is valid.
func freeCells(s api.Sheet) (cells, bool) {
	var free cells
	if s.W < 1 || s.W > api.MaxSide || s.H < 1 || s.H > api.MaxSide {
		return free, false
	}
	for y := range s.H {
		for x := range s.W {
			free = free.with(api.Point{X: x, Y: y})
		}
	}
	for _, hole := range s.Holes {
		if !isInside(hole, s.W, s.H) || !free.has(hole) {
			return cells{}, false
		}
		free = free.without(cells{}.with(hole))
	}
	return free, true
}

// under returns what a shape at a cell covers, or false if that is not all in c.
func (c cells) under(shape []api.Point, at api.Point) (cells, bool) {
	var out cells
	for _, x := range shape {
		x = api.Point{X: at.X + x.X, Y: at.Y + x.Y}
		if !isInside(x, api.MaxSide, api.MaxSide) || !c.has(x) {
			return cells{}, false
		}
		out = out.with(x)
	}
	return out, true
}

// choices returns the pieces that can be laid next: at the first cell of what is
// left, because a tiling is in the order of At.
func (b bench) choices(left cells) []piece {
	var out []piece
	first := left.first()
	for _, p := range b.pieces {
		if p.laid.At == first && left.holds(p.cells) {
			out = append(out, p)
		}
	}
	return out
}

// choice returns which one of the choices a laid cutter is: -1 if it is none.
func choice(choices []piece, laid api.Laid) int {
	return slices.IndexFunc(choices, func(p piece) bool { return p.laid == laid })
}

func (b bench) isTiling(tiling []api.Laid) bool {
	left := b.free
	for _, laid := range tiling {
		choices := b.choices(left)
		i := choice(choices, laid)
		if i < 0 {
			return false
		}
		left = left.without(choices[i].cells)
	}
	return left == cells{}
}

// mostWeight is the greatest weight of a cell, above 0 or below.
const mostWeight = 1000

func areWeights(weights []int) bool {
	isFar := func(w int) bool { return w < -mostWeight || w > mostWeight }
	return !slices.ContainsFunc(weights, isFar)
}

// isRefuted reports whether all pieces weigh 0 or more, and all free cells
// together less than that.
func (b bench) isRefuted(weight func(api.Point) int) bool {
	weigh := func(c cells) int {
		sum := 0
		for x := range c.all {
			sum += weight(x)
		}
		return sum
	}
	isLight := func(p piece) bool { return weigh(p.cells) < 0 }
	return weigh(b.free) < 0 && !slices.ContainsFunc(b.pieces, isLight)
}
