package blend

import (
	"cracknel/api"
	"cracknel/number"
)

// The columns of a tableau before those of variables: the scale of the row, and
// the multiples of the bound, of 1 and of the parameter in its variable's value.
const (
	scaleColumn = iota
	farColumn
	nearColumn
	timesColumn
	firstColumn
)

// A tableau is a program on the way to a best point.
//
// Its variables are those of the program; for each row its gap, which is how far
// it is from its right side; the gap of the bound; and the cost. They are
// numbered in this order. The cost may be any number, gaps of rows of the kind
// Equal are to be 0, and all others are to be 0 or more.
//
// Some of the variables, the basis, are written as linear functions of those
// outside of it, which are 0: each row of cells is such a function, times its
// scale. If all scales were the determinant, all cells would be determinants
// too, of other parts of the program (Edmonds, Bareiss): that is what keeps them
// integers, and no longer than they have to be. A scale of its own lets a row
// stay short if only few rows have to do with it.
//
// The bound is a number above all others. It limits the sum of the variables
// that make the goals better as they grow: so there is always a best point, and
// if the bound is part of its cost, the program alone has none.
type tableau struct {
	program
	cells       [][]number.Integer
	determinant number.Integer // of the basis, without its sign
	basis       []int          // the variable of each row
	outside     []int          // the variable of each column from firstColumn on
	places      []place        // of each variable
	goals       []goal         // the first one for which two points differ decides
	at          number.Ratio   // the parameter
}

// A place is a row or a column of the tableau; the other number is -1.
type place struct {
	row, column int
}

// A goal is a variable that is to be as small as possible or, if it is
// reversed, as large as possible.
type goal struct {
	variable int
	reversed bool
}

// newTableau returns the tableau of a program. Its goals are the cost, then
// those that are given, then all variables in their order.
func newTableau(p program, given ...goal) *tableau {
	t := &tableau{program: p, determinant: number.Of(1)}
	t.places = make([]place, t.costVariable()+1)
	t.goals = append(t.goals, goal{variable: t.costVariable()})
	t.goals = append(t.goals, given...)
	for i := range p.cost.Coef {
		t.goals = append(t.goals, goal{variable: i})
		t.outside = append(t.outside, i)
		t.places[i] = place{-1, firstColumn + i}
	}
	for k, r := range p.rows {
		cells := t.addRow(t.gap(k), r.Coef)
		cells[nearColumn], cells[timesColumn] = r.Right.Negated(), p.growth[k].Negated()
		if r.Kind == api.AtMost {
			negate(cells[farColumn:])
		}
	}
	t.addRow(t.costVariable(), p.cost.Coef)
	t.bound()
	return t
}

func (t *tableau) gap(row int) int { return len(t.cost.Coef) + row }

func (t *tableau) boundGap() int { return t.gap(len(t.rows)) }

func (t *tableau) costVariable() int { return t.boundGap() + 1 }

func (t *tableau) costRow() int { return t.places[t.costVariable()].row }

// isFixed reports whether a variable is to be 0.
func (t *tableau) isFixed(variable int) bool {
	k := variable - t.gap(0)
	return k >= 0 && k < len(t.rows) && t.rows[k].Kind == api.Equal
}

// addRow adds a variable to the basis, as a function of those outside.
func (t *tableau) addRow(variable int, coef []number.Integer) []number.Integer {
	cells := make([]number.Integer, firstColumn+len(coef))
	cells[scaleColumn] = number.Of(1)
	copy(cells[firstColumn:], coef)
	t.places[variable] = place{len(t.basis), -1}
	t.basis = append(t.basis, variable)
	t.cells = append(t.cells, cells)
	return cells
}

// amount returns the value of a row's variable, times the row's scale and the
// parameter's denominator: its multiple of the bound, and the rest.
func (t *tableau) amount(row int) (far, near number.Integer) {
	cells := t.cells[row]
	near = cells[nearColumn].Times(t.at.Den()).Plus(cells[timesColumn].Times(t.at.Num()))
	return cells[farColumn].Times(t.at.Den()), near
}

// scale returns by what the amount of a row's variable is to be divided.
func (t *tableau) scale(row int) number.Integer {
	return t.cells[row][scaleColumn].Times(t.at.Den())
}

// sign returns the sign of the value of a row's variable.
func (t *tableau) sign(row int) int {
	far, near := t.amount(row)
	if far.IsZero() {
		return near.Sign()
	}
	return far.Sign()
}

// pivot exchanges the variables of a row and a column.
func (t *tableau) pivot(row, column int) {
	source := t.cells[row]
	scale, size := source[scaleColumn], source[column].Size()
	solve(source, column)
	for r, cells := range t.cells {
		if r != row && !cells[column].IsZero() {
			// With the determinant as the scale of both rows the divisor would be
			// the determinant; what they lack of it, it lacks.
			both := cells[scaleColumn].Times(scale)
			insert(cells, source, column, both.DividedBy(number.Divisor(both, t.determinant)))
		}
	}
	t.determinant = t.determinant.Times(size).DividedBy(scale)
	in, out := t.outside[column-firstColumn], t.basis[row]
	t.basis[row], t.places[in] = in, place{row, -1}
	t.outside[column-firstColumn], t.places[out] = out, place{-1, column}
}

// solve solves a row for the variable of a column.
func solve(cells []number.Integer, column int) {
	scale, size := cells[scaleColumn], cells[column]
	cells[scaleColumn], cells[column] = size.Size(), scale.Negated()
	if size.Sign() > 0 {
		negate(cells[farColumn:])
	}
}

// insert replaces the variable of a column by what a row says that is solved for
// it. The divisor divides what comes of it.
func insert(cells, solved []number.Integer, column int, divisor number.Integer) {
	factor, size := cells[column].Negated(), solved[scaleColumn]
	cells[scaleColumn] = cells[scaleColumn].Times(size).DividedBy(divisor)
	cells[column] = number.Integer{}
	for j := farColumn; j < len(cells); j++ {
		if !cells[j].IsZero() || !solved[j].IsZero() {
			cells[j] = number.Cross(cells[j], size, factor, solved[j], divisor)
		}
	}
}

func negate(cells []number.Integer) {
	for j, x := range cells {
		cells[j] = x.Negated()
	}
}
