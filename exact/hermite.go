package exact

import (
	"cracknel/api"
	"cracknel/number"
)

// A basis is a matrix in Hermite normal form without rows that are zero: the
// one basis of this form of what its rows generate.
type basis struct {
	rows   matrix
	pivots []int // the column of each row's pivot
}

// newBasis returns the basis of what the rows generate. It inserts row by row
// and keeps the basis reduced: so its entries stay quotients of determinants
// of the rows, and do not grow from step to step.
func newBasis(rows matrix) basis {
	var b basis
	for _, row := range rows {
		b.insert(append([]number.Integer(nil), row...))
	}
	return b
}

// leads returns the number of zeros with which a vector begins.
func leads(v []number.Integer) int {
	for i, x := range v {
		if !x.IsZero() {
			return i
		}
	}
	return len(v)
}

// insert adds a vector, which it uses up, to what the basis generates.
func (b *basis) insert(v []number.Integer) {
	at := 0
	for at < len(b.rows) && b.pivots[at] <= leads(v) {
		if b.pivots[at] == leads(v) {
			v = b.meet(at, v)
		}
		at++
	}
	if column := leads(v); column < len(v) {
		b.place(at, column, v)
	}
	b.tidy()
}

// meet makes the pivot of a row divide v's entry in its column, by steps that
// keep what the row and v generate, and returns v without that entry.
func (b *basis) meet(k int, v []number.Integer) []number.Integer {
	row, column := b.rows[k], b.pivots[k]
	quotient, rest := v[column].Over(row[column])
	if rest.IsZero() {
		subtract(v, quotient, row)
		b.reduce(v, k+1)
		return v
	}
	g, s, t := number.Factors(row[column], v[column])
	other, pivot := v[column].DividedBy(g), row[column].DividedBy(g)
	b.rows[k] = mix(s, row, t, v)
	b.reduce(b.rows[k], k+1)
	v = mix(pivot, v, other.Negated(), row)
	b.reduce(v, k+1)
	return v
}

// place puts v, whose first entry that is not 0 is in that column, before the
// row with the number at.
func (b *basis) place(at, column int, v []number.Integer) {
	if v[column].Sign() < 0 {
		for j := range v {
			v[j] = v[j].Negated()
		}
	}
	b.rows = append(b.rows, nil)
	copy(b.rows[at+1:], b.rows[at:])
	b.rows[at] = v
	b.pivots = append(b.pivots, 0)
	copy(b.pivots[at+1:], b.pivots[at:])
	b.pivots[at] = column
}

// tidy reduces each row by those below it.
func (b *basis) tidy() {
	for i := len(b.rows) - 1; i >= 0; i-- {
		b.reduce(b.rows[i], i+1)
	}
}

// reduce reduces v by the rows from a number on.
func (b *basis) reduce(v []number.Integer, from int) {
	for k := from; k < len(b.rows); k++ {
		column := b.pivots[k]
		quotient, _ := v[column].Over(b.rows[k][column])
		subtract(v, quotient, b.rows[k])
	}
}

// subtract subtracts a multiple of a row from v.
func subtract(v []number.Integer, factor number.Integer, row []number.Integer) {
	if factor.IsZero() {
		return
	}
	for j, x := range row {
		if !x.IsZero() {
			v[j] = v[j].Minus(factor.Times(x))
		}
	}
}

// mix returns s·a + t·b.
func mix(s number.Integer, a []number.Integer, t number.Integer, b []number.Integer) []number.Integer {
	out := make([]number.Integer, len(a))
	for j := range out {
		out[j] = s.Times(a[j]).Plus(t.Times(b[j]))
	}
	return out
}

// asBasis returns the rows of a matrix in Hermite normal form that are not
// zero as a basis, or false if the matrix has another form.
func asBasis(m matrix) (basis, bool) {
	var b basis
	for i, row := range m {
		column, n := leads(row), len(b.rows)
		if column == len(row) {
			continue
		}
		afterZero := n < i
		if afterZero || n > 0 && column <= b.pivots[n-1] || row[column].Sign() < 0 {
			return basis{}, false
		}
		b.rows = append(b.rows, row)
		b.pivots = append(b.pivots, column)
	}
	return b, b.isReduced()
}

// isReduced reports whether all entries above pivots are 0 or more, and less
// than the pivot.
func (b *basis) isReduced() bool {
	for k, column := range b.pivots {
		for _, row := range b.rows[:k] {
			if row[column].Sign() < 0 || row[column].Compare(b.rows[k][column]) >= 0 {
				return false
			}
		}
	}
	return true
}

// Hermite returns the Hermite normal form of a matrix, and a matrix that
// leads to it.
func Hermite(a [][]api.Num) ([][]api.Num, [][]api.Num, api.Errno) {
	m, _, e := readMatrix(a)
	if e != api.OK {
		return nil, nil, e
	}
	// In the columns of the unit matrix the rows say how they were made.
	b := newBasis(m.withUnits())
	h, u := make(matrix, len(m)), make(matrix, len(m))
	for i, row := range b.rows {
		h[i], u[i] = row[:m.columns()], row[m.columns():]
	}
	form, e := writeMatrix(h)
	if e != api.OK {
		return nil, nil, e
	}
	steps, e := writeMatrix(u)
	if e != api.OK {
		return nil, nil, e
	}
	return form, steps, api.OK
}

// Reduce returns a vector reduced by a matrix in Hermite normal form.
func Reduce(h [][]api.Num, v []api.Num) ([]api.Num, api.Errno) {
	m, vectors, e := readMatrix(h, v)
	if e != api.OK {
		return nil, e
	}
	b, ok := asBasis(m)
	if !ok || len(v) != m.columns() {
		return nil, api.ErrArg
	}
	values, ok := integers(vectors[0])
	if !ok {
		return nil, api.ErrForm
	}
	b.reduce(values, 0)
	return writeIntegers(values)
}
