// Package lattice is the integer combinations of vectors, by their bases in
// Hermite normal form: what the layers that work with such combinations share.
package lattice

import "cracknel/number"

// A Vector is a slice of integers.
type Vector = []number.Integer

// A Basis is a matrix in Hermite normal form without rows that are zero: the
// one basis of this form of what its rows generate.
type Basis struct {
	Rows   []Vector
	Pivots []int // the column of each row's pivot
}

// New returns the basis of what rows of the same length generate. It inserts
// row by row and keeps the basis reduced: so its entries stay quotients of
// determinants of the rows, and do not grow from step to step.
func New(rows []Vector) Basis {
	var b Basis
	for _, row := range rows {
		b.insert(append(Vector(nil), row...))
	}
	return b
}

// Zeros returns the number of zeros with which a vector begins.
func Zeros(v Vector) int {
	for i, x := range v {
		if !x.IsZero() {
			return i
		}
	}
	return len(v)
}

// insert adds a vector, which it uses up, to what the basis generates.
func (b *Basis) insert(v Vector) {
	at := 0
	for at < len(b.Rows) && b.Pivots[at] <= Zeros(v) {
		if b.Pivots[at] == Zeros(v) {
			v = b.meet(at, v)
		}
		at++
	}
	if column := Zeros(v); column < len(v) {
		b.place(at, column, v)
	}
	b.tidy()
}

// meet makes the pivot of a row divide v's entry in its column, by steps that
// keep what the row and v generate, and returns v without that entry.
func (b *Basis) meet(k int, v Vector) Vector {
	row, column := b.Rows[k], b.Pivots[k]
	quotient, rest := v[column].Over(row[column])
	if rest.IsZero() {
		subtract(v, quotient, row)
		b.reduce(v, k+1)
		return v
	}
	g, s, t := number.Factors(row[column], v[column])
	other, pivot := v[column].DividedBy(g), row[column].DividedBy(g)
	b.Rows[k] = mix(s, row, t, v)
	b.reduce(b.Rows[k], k+1)
	v = mix(pivot, v, other.Negated(), row)
	b.reduce(v, k+1)
	return v
}

// place puts v, whose first entry that is not 0 is in that column, before the
// row with the number at.
func (b *Basis) place(at, column int, v Vector) {
	if v[column].Sign() < 0 {
		for j := range v {
			v[j] = v[j].Negated()
		}
	}
	b.Rows = append(b.Rows, nil)
	copy(b.Rows[at+1:], b.Rows[at:])
	b.Rows[at] = v
	b.Pivots = append(b.Pivots, 0)
	copy(b.Pivots[at+1:], b.Pivots[at:])
	b.Pivots[at] = column
}

// tidy reduces each row by those below it.
func (b *Basis) tidy() {
	for i := len(b.Rows) - 1; i >= 0; i-- {
		b.reduce(b.Rows[i], i+1)
	}
}

// Reduce reduces a vector, which it changes, by the basis.
func (b Basis) Reduce(v Vector) { b.reduce(v, 0) }

// From returns the basis of all that begins with zeros before a column, without
// these zeros. A combination that takes a row with a pivot before the column has
// an entry there that is not 0, so that the other rows generate it.
func (b Basis) From(column int) Basis {
	var out Basis
	for k, pivot := range b.Pivots {
		if pivot >= column {
			out.Rows = append(out.Rows, b.Rows[k][column:])
			out.Pivots = append(out.Pivots, pivot-column)
		}
	}
	return out
}

// reduce reduces v by the rows from a number on.
func (b Basis) reduce(v Vector, from int) {
	for k := from; k < len(b.Rows); k++ {
		column := b.Pivots[k]
		quotient, _ := v[column].Over(b.Rows[k][column])
		subtract(v, quotient, b.Rows[k])
	}
}

// subtract subtracts a multiple of a row from v.
func subtract(v Vector, factor number.Integer, row Vector) {
	if factor.IsZero() {
		return
	}
	for j, x := range row {
		if !x.IsZero() {
			v[j] = v[j].Minus(factor.Times(x))
		}
	}
}

// mix returns s·a + t·b.
func mix(s number.Integer, a Vector, t number.Integer, b Vector) Vector {
	out := make(Vector, len(a))
	for j := range out {
		out[j] = s.Times(a[j]).Plus(t.Times(b[j]))
	}
	return out
}

// Read returns the rows of a matrix in Hermite normal form that are not zero as
// a basis, which shares them, or false if the matrix has another form.
func Read(rows []Vector) (Basis, bool) {
	var b Basis
	for i, row := range rows {
		column, n := Zeros(row), len(b.Rows)
		if column == len(row) {
			continue
		}
		afterZero := n < i
		if afterZero || n > 0 && column <= b.Pivots[n-1] || row[column].Sign() < 0 {
			return Basis{}, false
		}
		b.Rows = append(b.Rows, row)
		b.Pivots = append(b.Pivots, column)
	}
	return b, b.isReduced()
}

// isReduced reports whether all entries above pivots are 0 or more, and less
// than the pivot.
func (b Basis) isReduced() bool {
	for k, column := range b.Pivots {
		for _, row := range b.Rows[:k] {
			if row[column].Sign() < 0 || row[column].Compare(b.Rows[k][column]) >= 0 {
				return false
			}
		}
	}
	return true
}
