package exact

import (
	"cracknel/api"
	"cracknel/lattice"
	"cracknel/number"
)

// smallSeparator is how far Refuse looks for a small common denominator.
const smallSeparator = 1000

// An equations value is a·x = b, to be solved by integers x.
type equations struct {
	a matrix
	b []number.Integer
}

// readEquations reads equations and further vectors.
func readEquations(a [][]api.Num, b []api.Num, more ...[]api.Num) (equations, [][]number.Ratio, api.Errno) {
	m, vectors, e := readMatrix(a, append([][]api.Num{b}, more...)...)
	if e != api.OK {
		return equations{}, nil, e
	}
	if len(b) != len(m) {
		return equations{}, nil, api.ErrArg
	}
	right, ok := integers(vectors[0])
	if !ok {
		return equations{}, nil, api.ErrForm
	}
	return equations{m, right}, vectors[1:], api.OK
}

// Solve returns the integer solutions of linear equations.
func Solve(a [][]api.Num, b []api.Num) ([]api.Num, [][]api.Num, api.Errno) {
	q, _, e := readEquations(a, b)
	if e != api.OK {
		return nil, nil, e
	}
	x, kernel, ok := q.solve()
	if !ok {
		return nil, nil, api.ErrNone
	}
	solution, e := writeIntegers(x)
	if e != api.OK {
		return nil, nil, e
	}
	free, e := writeMatrix(kernel)
	if e != api.OK {
		return nil, nil, e
	}
	return solution, free, api.OK
}

// solve returns the reduced solution and the basis of the solutions of
// a·x = 0, or false if there is no solution.
func (q equations) solve() ([]number.Integer, matrix, bool) {
	rows := len(q.a)
	// A row of this basis is a combination of columns of a and, behind it,
	// the factors that make it; where the former is zero, these are a solution
	// of a·x = 0.
	all := lattice.New(q.a.transposed().withUnits())
	kernel := all.From(rows)
	v := make([]number.Integer, rows+q.a.columns())
	copy(v, q.b)
	all.Reduce(v)
	if lattice.Zeros(v) < rows {
		return nil, nil, false
	}
	x := v[rows:]
	for i := range x {
		x[i] = x[i].Negated()
	}
	kernel.Reduce(x)
	return x, kernel.Rows, true
}

// Refuse returns multipliers that prove that there is no integer solution.
func Refuse(a [][]api.Num, b []api.Num) ([]api.Num, api.Errno) {
	q, _, e := readEquations(a, b)
	if e != api.OK {
		return nil, e
	}
	y, ok := q.refuse()
	if !ok {
		return nil, api.ErrNone
	}
	return writeVector(y)
}

// refuse returns multipliers, each 0 or more and less than 1, or false if
// there is a solution.
func (q equations) refuse() ([]number.Ratio, bool) {
	columns := lattice.New(q.a.transposed())
	rest := append([]number.Integer(nil), q.b...)
	columns.Reduce(rest)
	at := lattice.Zeros(rest)
	if at == len(rest) {
		return nil, false
	}
	// The product of w with rest is scale·rest[at]; with a row of the basis it
	// is 0 or, for a row whose pivot is in that column, scale·pivot, of which
	// scale·rest[at] is no multiple.
	w, scale := number.Scaled(orthogonal(columns, len(rest), at))
	var all number.Integer
	for k, column := range columns.Pivots {
		if column == at {
			all = scale.Times(columns.Rows[k][at])
		}
	}
	modulus := separator(all, scale.Times(rest[at]))
	y := make([]number.Ratio, len(w))
	for i, x := range w {
		_, part := x.Over(modulus)
		y[i] = number.New(part, modulus)
	}
	return y, true
}

// orthogonal returns a vector of that width whose product with every row of a
// basis whose pivot is before a column is 0, with 1 in that column and nothing
// behind it.
func orthogonal(b lattice.Basis, width, at int) []number.Ratio {
	y := make([]number.Ratio, width)
	y[at] = number.Whole(number.Of(1))
	for k := len(b.Pivots) - 1; k >= 0; k-- {
		column := b.Pivots[k]
		if column >= at {
			continue
		}
		var sum number.Ratio
		for j := column + 1; j <= at; j++ {
			sum = sum.Plus(y[j].Times(number.Whole(b.Rows[k][j])))
		}
		y[column] = sum.Over(number.Whole(b.Rows[k][column])).Negated()
	}
	return y
}

// separator returns a number that divides a, but not b, where a is 0 or does
// not divide b: a small one if there is one, so that multipliers stay short.
func separator(a, b number.Integer) number.Integer {
	for w := 2; a.IsZero() || w <= smallSeparator; w++ {
		small := number.Of(w)
		if divides(small, a) && !divides(small, b) {
			return small
		}
	}
	return a
}

// divides reports whether a number that is not 0 divides another one.
func divides(a, b number.Integer) bool {
	_, rest := b.Over(a)
	return rest.IsZero()
}

// Refutes reports whether multipliers prove that there is no integer solution.
func Refutes(a [][]api.Num, b, y []api.Num) (bool, api.Errno) {
	q, vectors, e := readEquations(a, b, y)
	if e != api.OK {
		return false, e
	}
	if len(y) != len(q.a) {
		return false, api.ErrArg
	}
	return q.refutedBy(vectors[0]), api.OK
}

// refutedBy reports whether y·a consists of integers and y·b is not one.
func (q equations) refutedBy(y []number.Ratio) bool {
	multipliers, common := number.Scaled(y)
	isInteger := func(v []number.Integer) bool {
		return divides(common, number.Dot(multipliers, v))
	}
	for _, column := range q.a.transposed() {
		if !isInteger(column) {
			return false
		}
	}
	return !isInteger(q.b)
}
