package shop

import (
	"cracknel/linear"
	"cracknel/number"
)

// The columns of a filling: behind the scale of a row the amount of its variable
// while all variables outside of the basis are 0, then these.
const (
	amountColumn = linear.ScaleColumn + 1 + iota
	firstColumn
)

// A filling is pieces on the way to the most work.
//
// Its variables are the pieces, for each limit its gap, which is how far it is
// from its right side, and the total of all pieces; they are numbered in this
// order. None may be below 0, and none is, from the beginning on: with no work
// there is room in all limits.
type filling struct {
	linear.Tableau
}

// most returns how much each piece is where all pieces together are the most
// that the limits allow. Each piece is in a limit.
//
// This is the simplex method. There is a plan exactly if the most is all work:
// so there is no need to find out first whether the limits of the kind Equal can
// hold, and they are treated as the others.
func most(pieces int, limits []limit) []number.Ratio {
	f := newFilling(pieces, limits)
	for {
		row, column := f.nextStep()
		if row < 0 {
			return f.amounts(pieces)
		}
		f.Pivot(row, column)
	}
}

func newFilling(pieces int, limits []limit) *filling {
	f := &filling{linear.NewTableau(firstColumn-amountColumn, pieces)}
	for k, l := range limits {
		coef := make([]number.Integer, pieces)
		for _, i := range l.pieces {
			coef[i] = number.Of(-1)
		}
		f.AddRow(pieces+k, coef)[amountColumn] = l.right.Num()
	}
	coef := make([]number.Integer, pieces)
	for i := range coef {
		coef[i] = number.Of(1)
	}
	f.AddRow(pieces+len(limits), coef)
	return f
}

func (f *filling) totalRow() int { return len(f.Cells) - 1 }

// A step makes a variable as large as another one permits, which becomes 0.
type step struct {
	row, column int
	entering    int            // the variable that grows
	gain, size  number.Integer // the total grows by gain/size, times its scale
}

// nextStep returns the row and the column of the step with the greatest gain, or
// -1 if none gains anything, however small.
//
// Of several it is the one whose variable has the least number. Where all gains
// are 0 this is Bland's rule, by which such steps do not go round in circles.
func (f *filling) nextStep() (row, column int) {
	best := step{row: -1, column: -1}
	for i, variable := range f.Outside {
		column := firstColumn + i
		if f.Cells[f.totalRow()][column].Sign() <= 0 {
			continue
		}
		next := f.stepOf(column, variable)
		if best.row < 0 || next.isBetter(best) {
			best = next
		}
	}
	return best.row, best.column
}

// stepOf returns the step by which the variable of a column grows: the first one
// to become 0 then, of several the one with the least number, stops it.
func (f *filling) stepOf(column, variable int) step {
	found := -1
	for row := range f.totalRow() {
		if f.Cells[row][column].Sign() < 0 && (found < 0 || f.isSooner(row, found, column)) {
			found = row
		}
	}
	cells := f.Cells[found]
	gain := f.Cells[f.totalRow()][column].Times(cells[amountColumn])
	return step{found, column, variable, gain, cells[column].Size()}
}

// isSooner reports whether the variable of a row becomes 0 before that of
// another one, as the variable of a column grows.
func (f *filling) isSooner(row, other, column int) bool {
	left := f.Cells[row][amountColumn].Times(f.Cells[other][column].Size())
	right := f.Cells[other][amountColumn].Times(f.Cells[row][column].Size())
	order := left.Compare(right)
	return order < 0 || order == 0 && f.Basis[row] < f.Basis[other]
}

// isBetter reports whether a step is to be preferred to another one.
func (s step) isBetter(other step) bool {
	order := s.gain.Times(other.size).Compare(other.gain.Times(s.size))
	return order > 0 || order == 0 && s.entering < other.entering
}

// amounts returns how much each piece is.
func (f *filling) amounts(pieces int) []number.Ratio {
	out := make([]number.Ratio, pieces)
	for row, variable := range f.Basis {
		if variable < pieces {
			cells := f.Cells[row]
			out[variable] = number.New(cells[amountColumn], cells[linear.ScaleColumn])
		}
	}
	return out
}
