package tile

import (
	"math/bits"

	"cracknel/api"
)

// cells is a set of cells: for each row of a sheet a bit for each column.
type cells [api.MaxSide]uint8

// isInside reports whether a point is a cell of a sheet of w times h cells.
func isInside(x api.Point, w, h int) bool { return 0 <= x.X && x.X < w && 0 <= x.Y && x.Y < h }

func (c cells) has(x api.Point) bool { return c[x.Y]>>x.X&1 == 1 }

func (c cells) with(x api.Point) cells {
	c[x.Y] |= 1 << x.X
	return c
}

// holds reports whether all cells of d are in c.
func (c cells) holds(d cells) bool {
	for y, row := range d {
		if row&^c[y] != 0 {
			return false
		}
	}
	return true
}

func (c cells) without(d cells) cells {
	for y, row := range d {
		c[y] &^= row
	}
	return c
}

// joined returns what is in c, in d or in both.
func (c cells) joined(d cells) cells {
	for y, row := range d {
		c[y] |= row
	}
	return c
}

// common returns what is in both.
func (c cells) common(d cells) cells {
	for y, row := range d {
		c[y] &= row
	}
	return c
}

func (c cells) size() int {
	sum := 0
	for _, row := range c {
		sum += bits.OnesCount8(row)
	}
	return sum
}

// all yields the cells in order.
func (c cells) all(yield func(api.Point) bool) {
	for y, row := range c {
		for ; row > 0; row &= row - 1 {
			if !yield(api.Point{X: bits.TrailingZeros8(row), Y: y}) {
				return
			}
		}
	}
}

// first returns the first cell of a set that is not empty.
func (c cells) first() api.Point {
	for x := range c.all {
		return x
	}
	return api.Point{}
}
