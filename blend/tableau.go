package blend

import (
	"cracknel/api"
	"cracknel/linear"
	"cracknel/number"
)

// The columns of a tableau between the scale of the row and those of variables:
// the multiples of the bound, of 1 and of the parameter in its variable's value.
const (
	farColumn = linear.ScaleColumn + 1 + iota
	nearColumn
	timesColumn
	firstColumn
)

// A tableau is a program on the way to a best point.
//
// Its variables are those of the program; for each row its gap, which is how far
// it is from its right side; the gap of the bound; and the cost. They are
// numbered in this order. The cost may be any number, gaps of rows of the kind
// Equal are to be 0, and all others are to be 0 or more.
//
// Those outside of the basis are 0.
//
// The bound is a number above all others. It limits the sum of the variables
// that make the goals better as they grow: so there is always a best point, and
// if the bound is part of its cost, the program alone has none.
type tableau struct {
	program
	linear.Tableau
	places []place      // of each variable
	goals  []goal       // the first one for which two points differ decides
	at     number.Ratio // the parameter
}

// A place is a row or a column of the tableau; the other number is -1.
type place struct {
	row, column int
}

// A goal is a variable that is to be as small as possible or, if it is
// reversed, as large as possible.
type goal struct {
	variable int
	reversed bool
}

// newTableau returns the tableau of a program. Its goals are the cost, then
// those that are given, then all variables in their order.
func newTableau(p program, given ...goal) *tableau {
	t := &tableau{program: p, Tableau: linear.NewTableau(firstColumn-farColumn, len(p.cost.Coef))}
	t.places = make([]place, t.costVariable()+1)
	t.goals = append(t.goals, goal{variable: t.costVariable()})
	t.goals = append(t.goals, given...)
	for i := range p.cost.Coef {
		t.goals = append(t.goals, goal{variable: i})
		t.places[i] = place{-1, firstColumn + i}
	}
	for k, r := range p.rows {
		cells := t.addRow(t.gap(k), r.Coef)
		cells[nearColumn], cells[timesColumn] = r.Right.Negated(), p.growth[k].Negated()
		if r.Kind == api.AtMost {
			linear.Negate(cells[farColumn:])
		}
	}
	t.addRow(t.costVariable(), p.cost.Coef)
	t.bound()
	return t
}

func (t *tableau) gap(row int) int { return len(t.cost.Coef) + row }

func (t *tableau) boundGap() int { return t.gap(len(t.rows)) }

func (t *tableau) costVariable() int { return t.boundGap() + 1 }

func (t *tableau) costRow() int { return t.places[t.costVariable()].row }

// isFixed reports whether a variable is to be 0.
func (t *tableau) isFixed(variable int) bool {
	k := variable - t.gap(0)
	return k >= 0 && k < len(t.rows) && t.rows[k].Kind == api.Equal
}

// addRow adds a variable to the basis, as a function of those outside.
func (t *tableau) addRow(variable int, coef []number.Integer) []number.Integer {
	t.places[variable] = place{len(t.Basis), -1}
	return t.AddRow(variable, coef)
}

// amount returns the value of a row's variable, times the row's scale and the
// parameter's denominator: its multiple of the bound, and the rest.
func (t *tableau) amount(row int) (far, near number.Integer) {
	cells := t.Cells[row]
	near = cells[nearColumn].Times(t.at.Den()).Plus(cells[timesColumn].Times(t.at.Num()))
	return cells[farColumn].Times(t.at.Den()), near
}

// scale returns by what the amount of a row's variable is to be divided.
func (t *tableau) scale(row int) number.Integer {
	return t.Cells[row][linear.ScaleColumn].Times(t.at.Den())
}

// sign returns the sign of the value of a row's variable.
func (t *tableau) sign(row int) int {
	far, near := t.amount(row)
	if far.IsZero() {
		return near.Sign()
	}
	return far.Sign()
}

// exchange exchanges the variables of a row and a column.
func (t *tableau) exchange(row, column int) {
	t.Pivot(row, column)
	t.places[t.Basis[row]] = place{row, -1}
	t.places[t.Outside[column-firstColumn]] = place{-1, column}
}
