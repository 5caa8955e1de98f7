package linear

import "cracknel/number"

// ScaleColumn is the column of a tableau with the scales of its rows.
const ScaleColumn = 0

// A Tableau is linear functions on the way to a best point.
//
// Some of its variables, the basis, are written as linear functions of those
// outside of it: each row of Cells is such a function, times its scale. After the
// scale come the constants, then the coefficients of the variables outside.
//
// If all scales were the determinant, all cells would be determinants too, of
// other parts of the program (Edmonds, Bareiss): that is what keeps them
// integers, and no longer than they have to be. A scale of its own lets a row
// stay short if only few rows have to do with it.
type Tableau struct {
	Cells       [][]number.Integer
	Basis       []int          // the variable of each row
	Outside     []int          // the variable of each column from first on
	first       int            // the column of the first variable outside
	determinant number.Integer // of the basis, without its sign
}

// NewTableau returns a tableau without rows, with that many constants in each
// row that it will have, and that many variables outside, which are numbered.
func NewTableau(constants, variables int) Tableau {
	outside := make([]int, variables)
	for i := range outside {
		outside[i] = i
	}
	return Tableau{Outside: outside, first: ScaleColumn + 1 + constants, determinant: number.Of(1)}
}

// AddRow adds a variable to the basis, as a function of those outside, and
// returns its row, whose constants are 0.
func (t *Tableau) AddRow(variable int, coef []number.Integer) []number.Integer {
	cells := make([]number.Integer, t.first+len(coef))
	cells[ScaleColumn] = number.Of(1)
	copy(cells[t.first:], coef)
	t.Basis = append(t.Basis, variable)
	t.Cells = append(t.Cells, cells)
	return cells
}

// Pivot exchanges the variables of a row and a column, where the cell is not 0.
func (t *Tableau) Pivot(row, column int) {
	source := t.Cells[row]
	scale, size := source[ScaleColumn], source[column].Size()
	solve(source, column)
	for r, cells := range t.Cells {
		if r != row && !cells[column].IsZero() {
			// With the determinant as the scale of both rows the divisor would be
			// the determinant; what they lack of it, it lacks.
			both := cells[ScaleColumn].Times(scale)
			insert(cells, source, column, both.DividedBy(number.Divisor(both, t.determinant)))
		}
	}
	t.determinant = t.determinant.Times(size).DividedBy(scale)
	i := column - t.first
	t.Basis[row], t.Outside[i] = t.Outside[i], t.Basis[row]
}

// solve solves a row for the variable of a column.
func solve(cells []number.Integer, column int) {
	scale, size := cells[ScaleColumn], cells[column]
	cells[ScaleColumn], cells[column] = size.Size(), scale.Negated()
	if size.Sign() > 0 {
		Negate(cells[ScaleColumn+1:])
	}
}

// insert replaces the variable of a column by what a row says that is solved for
// it. The divisor divides what comes of it.
func insert(cells, solved []number.Integer, column int, divisor number.Integer) {
	factor, size := cells[column].Negated(), solved[ScaleColumn]
	cells[ScaleColumn] = cells[ScaleColumn].Times(size).DividedBy(divisor)
	cells[column] = number.Integer{}
	for j := ScaleColumn + 1; j < len(cells); j++ {
		if !cells[j].IsZero() || !solved[j].IsZero() {
			cells[j] = number.Cross(cells[j], size, factor, solved[j], divisor)
		}
	}
}

// Negate turns the signs of cells.
func Negate(cells []number.Integer) {
	for j, x := range cells {
		cells[j] = x.Negated()
	}
}
