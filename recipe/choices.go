package recipe

import (
	"slices"

	"cracknel/lattice"
	"cracknel/number"
)

type vector = lattice.Vector

// choices are the exponents that may be chosen: for each unit one vector and all
// that differ from it by integer combinations of rows, which are the same for all
// units.
type choices struct {
	width int
	free  lattice.Basis
	fixed []vector // for each unit, reduced by free
}

// everything returns all vectors of a width.
func everything(width, units int) choices {
	var rows []vector
	for i := range width {
		row := make(vector, width)
		row[i] = number.Of(1)
		rows = append(rows, row)
	}
	return choices{width, lattice.New(rows), zeros(units, width)}
}

// single returns for each unit one vector, of one exponent.
func single(exponents []int) choices {
	out := choices{width: 1}
	for _, n := range exponents {
		out.fixed = append(out.fixed, vector{number.Of(n)})
	}
	return out
}

func zeros(count, width int) []vector {
	out := make([]vector, count)
	for i := range out {
		out[i] = make(vector, width)
	}
	return out
}

// withUnits returns the choices for so many units, of which they need not have
// all: in a definition no number has a unit that is defined later.
func (c choices) withUnits(count int) choices {
	c.fixed = slices.Concat(c.fixed, zeros(count-len(c.fixed), c.width))
	return c
}

// join chooses one vector each of a and of b, of which a linear function makes
// zeros, and returns what another linear function makes of all such pairs, or
// false if there is no such pair for some unit.
func join(a, b choices, differ, keep func(x, y vector) vector) (choices, bool) {
	both := func(x, y vector) vector { return slices.Concat(differ(x, y), keep(x, y)) }
	noX, noY := make(vector, a.width), make(vector, b.width)
	var rows []vector
	for _, x := range a.free.Rows {
		rows = append(rows, both(x, noY))
	}
	for _, y := range b.free.Rows {
		rows = append(rows, both(noX, y))
	}
	basis := lattice.New(rows)
	from := len(differ(noX, noY))
	out := choices{width: len(keep(noX, noY)), free: basis.From(from)}
	for unit, x := range a.fixed {
		// What is left in front is what no combination of the rows can undo.
		v := both(x, b.fixed[unit])
		basis.Reduce(v)
		if lattice.Zeros(v) < from {
			return choices{}, false
		}
		out.fixed = append(out.fixed, v[from:])
	}
	return out, true
}

// image returns what a linear function makes of all vectors.
func (c choices) image(keep func(x vector) vector) choices {
	nothing := everything(0, len(c.fixed))
	out, _ := join(c, nothing, func(_, _ vector) vector { return nil }, func(x, _ vector) vector { return keep(x) })
	return out
}

// minus returns the difference of two vectors of the same width.
func minus(x, y vector) vector {
	out := make(vector, len(x))
	for i := range out {
		out[i] = x[i].Minus(y[i])
	}
	return out
}

// rest returns what is left of a unit's vector if another one, of the same width or
// less, is subtracted and rows are, until the rest is reduced.
func (c choices) rest(unit int, exponents []int) vector {
	v := slices.Clone(c.fixed[unit])
	for i, n := range exponents {
		v[i] = v[i].Minus(number.Of(n))
	}
	c.free.Reduce(v)
	return v
}

// allows reports whether exponents may be chosen for a unit.
func (c choices) allows(unit int, exponents []int) bool {
	return lattice.Zeros(c.rest(unit, exponents)) == c.width
}

// result returns the exponent of a unit in a result beside those of the arguments,
// of several ones the least that is 0 or more, or false if there is none.
func (c choices) result(unit int, args []int) (number.Integer, bool) {
	rest := c.rest(unit, args)
	return rest[len(args)], lattice.Zeros(rest) >= len(args)
}

// isShort reports whether all numbers have few enough digits.
func (c choices) isShort() bool {
	isLong := func(x number.Integer) bool { return !number.Whole(x).IsShort() }
	for _, v := range slices.Concat(c.free.Rows, c.fixed) {
		if slices.ContainsFunc(v, isLong) {
			return false
		}
	}
	return true
}
