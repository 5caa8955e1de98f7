package blend

import "cracknel/number"

// settle goes on, step by step, until all variables are what they are to be. It
// returns -1, or else the row of a variable that cannot be.
//
// This is the dual simplex method: no column makes the goals better, neither
// before nor after a step, and the goals get worse from step to step. So it
// ends, and at a best point.
func (t *tableau) settle() int {
	for {
		row, column := t.nextStep()
		if row < 0 || column < 0 {
			return row
		}
		t.exchange(row, column)
	}
}

// nextStep returns the row of a variable that is not what it is to be, and the
// column that is to make it so. The row is -1 if there is none, and the column
// is -1 if none can do it.
//
// It looks for the longest step: this takes no more time than the step itself,
// and avoids the thousands of steps on which simpler rules can be led.
func (t *tableau) nextStep() (row, column int) {
	row, column = -1, -1
	for r, variable := range t.Basis {
		sign := t.sign(r)
		isWrong := sign < 0 || sign > 0 && t.isFixed(variable)
		if !isWrong || variable == t.costVariable() {
			continue
		}
		c := t.entering(r, -sign)
		if c < 0 {
			return r, c
		}
		if row < 0 || t.isLonger(r, c, row, column) {
			row, column = r, c
		}
	}
	return row, column
}

// entering returns the column that is to grow so that a row's variable grows
// (direction 1) or shrinks (-1) at the least loss of the goals, or -1 if there
// is none.
func (t *tableau) entering(row, direction int) int {
	found := -1
	for i, variable := range t.Outside {
		column := firstColumn + i
		if t.Cells[row][column].Sign() != direction || t.isFixed(variable) {
			continue
		}
		if found < 0 || t.isCheaper(row, column, found) {
			found = column
		}
	}
	return found
}

// isCheaper reports whether a column loses less than another one for the same
// gain of a row's variable, in the first goal in which their losses differ. In
// some goal they do, because the goals determine all variables.
func (t *tableau) isCheaper(row, column, other int) bool {
	gain, otherGain := t.Cells[row][column], t.Cells[row][other]
	for _, g := range t.goals {
		loss, otherLoss := t.loss(g, column), t.loss(g, other)
		if loss.IsZero() && otherLoss.IsZero() {
			continue
		}
		order := loss.Times(otherGain).Compare(otherLoss.Times(gain))
		if order != 0 {
			return order == -gain.Sign()
		}
	}
	return false
}

// isLonger reports whether the step at a row and a column makes a goal worse
// than another step does, in the first goal in which they differ, or, if they do
// not differ, whether its variable is farther from what it is to be.
func (t *tableau) isLonger(row, column, otherRow, otherColumn int) bool {
	size, otherSize := t.Cells[row][column].Size(), t.Cells[otherRow][otherColumn].Size()
	for _, g := range t.goals {
		loss, otherLoss := t.loss(g, column), t.loss(g, otherColumn)
		if loss.IsZero() && otherLoss.IsZero() {
			continue
		}
		order := t.compareGaps(row, loss.Times(otherSize), otherRow, otherLoss.Times(size))
		if order != 0 {
			return order > 0
		}
	}
	return t.compareGaps(row, t.scale(otherRow), otherRow, t.scale(row)) > 0
}

// compareGaps compares the distances from 0 of the variables of two rows, each
// one times a factor.
func (t *tableau) compareGaps(row int, factor number.Integer, otherRow int, otherFactor number.Integer) int {
	far, near := t.distance(row)
	otherFar, otherNear := t.distance(otherRow)
	order := far.Times(factor).Compare(otherFar.Times(otherFactor))
	if order == 0 {
		order = near.Times(factor).Compare(otherNear.Times(otherFactor))
	}
	return order
}

// distance returns the amount of a row's variable, with its sign turned if it is
// below 0.
func (t *tableau) distance(row int) (far, near number.Integer) {
	far, near = t.amount(row)
	if t.sign(row) < 0 {
		return far.Negated(), near.Negated()
	}
	return far, near
}

// loss returns by how much a goal gets worse as a column grows, times a scale of
// the goal's own.
func (t *tableau) loss(g goal, column int) number.Integer {
	var out number.Integer
	at := t.places[g.variable]
	if at.row >= 0 {
		out = t.Cells[at.row][column]
	} else if at.column == column {
		out = number.Of(1)
	}
	if g.reversed {
		return out.Negated()
	}
	return out
}

// bound limits the variables that make the goals better as they grow, and makes
// the one that does so the most as large as the bound: from then on no column
// makes the goals better.
func (t *tableau) bound() {
	coef := make([]number.Integer, len(t.Outside))
	isNeeded := false
	for i := range coef {
		if t.firstLoss(firstColumn+i) < 0 {
			coef[i] = number.Of(-1)
			isNeeded = true
		}
	}
	if isNeeded {
		row := len(t.Basis)
		t.addRow(t.boundGap(), coef)[farColumn] = number.Of(1)
		t.exchange(row, t.entering(row, -1))
	}
}

// firstLoss returns the sign of a column's loss of the first goal for which it
// has one.
func (t *tableau) firstLoss(column int) int {
	for _, g := range t.goals {
		if sign := t.loss(g, column).Sign(); sign != 0 {
			return sign
		}
	}
	return 0
}
