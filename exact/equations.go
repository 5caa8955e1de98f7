package exact

import "cracknel/api"

// smallSeparator is how far Refuse looks for a small common denominator.
const smallSeparator = 1000

// An equations value is a·x = b, to be solved by integers x.
type equations struct {
	a matrix
	b []integer
}

// readEquations reads equations and further vectors.
func readEquations(a [][]api.Num, b []api.Num, more ...[]api.Num) (equations, [][]ratio, api.Errno) {
	m, vectors, e := readMatrix(a, append([][]api.Num{b}, more...)...)
	if e != api.OK {
		return equations{}, nil, e
	}
	if len(b) != len(m) {
		return equations{}, nil, api.ErrArg
	}
	right, ok := integers(vectors[0])
	if !ok {
		return equations{}, nil, api.ErrForm
	}
	return equations{m, right}, vectors[1:], api.OK
}

// Solve returns the integer solutions of linear equations.
func Solve(a [][]api.Num, b []api.Num) ([]api.Num, [][]api.Num, api.Errno) {
	q, _, e := readEquations(a, b)
	if e != api.OK {
		return nil, nil, e
	}
	x, kernel, ok := q.solve()
	if !ok {
		return nil, nil, api.ErrNone
	}
	solution, e := writeIntegers(x)
	if e != api.OK {
		return nil, nil, e
	}
	free, e := writeMatrix(kernel)
	if e != api.OK {
		return nil, nil, e
	}
	return solution, free, api.OK
}

// solve returns the reduced solution and the basis of the solutions of
// a·x = 0, or false if there is no solution.
func (q equations) solve() ([]integer, matrix, bool) {
	rows := len(q.a)
	// A row of this basis is a combination of columns of a and, behind it,
	// the factors that make it; where the former is zero, these are a solution
	// of a·x = 0.
	all := newBasis(q.a.transposed().withUnits())
	var kernel basis
	for k, column := range all.pivots {
		if column >= rows {
			kernel.rows = append(kernel.rows, all.rows[k][rows:])
			kernel.pivots = append(kernel.pivots, column-rows)
		}
	}
	v := make([]integer, rows+q.a.columns())
	copy(v, q.b)
	all.reduce(v, 0)
	if leads(v) < rows {
		return nil, nil, false
	}
	x := v[rows:]
	for i := range x {
		x[i] = x[i].negated()
	}
	kernel.reduce(x, 0)
	return x, kernel.rows, true
}

// Refuse returns multipliers that prove that there is no integer solution.
func Refuse(a [][]api.Num, b []api.Num) ([]api.Num, api.Errno) {
	q, _, e := readEquations(a, b)
	if e != api.OK {
		return nil, e
	}
	y, ok := q.refuse()
	if !ok {
		return nil, api.ErrNone
	}
	return writeVector(y)
}

// refuse returns multipliers, each 0 or more and less than 1, or false if
// there is a solution.
func (q equations) refuse() ([]ratio, bool) {
	columns := newBasis(q.a.transposed())
	rest := append([]integer(nil), q.b...)
	columns.reduce(rest, 0)
	at := leads(rest)
	if at == len(rest) {
		return nil, false
	}
	// The product of w with rest is scale·rest[at]; with a row of the basis it
	// is 0 or, for a row whose pivot is in that column, scale·pivot, of which
	// scale·rest[at] is no multiple.
	w, scale := scaled(columns.orthogonal(len(rest), at))
	var all natural
	for k, column := range columns.pivots {
		if column == at {
			all = scale.times(columns.rows[k][at].size)
		}
	}
	modulus := separator(all, scale.times(rest[at].size))
	y := make([]ratio, len(w))
	for i, x := range w {
		_, part := x.over(whole(modulus))
		y[i] = newRatio(part, modulus)
	}
	return y, true
}

// orthogonal returns a vector of that width whose product with every row whose
// pivot is before a column is 0, with 1 in that column and nothing behind it.
func (b *basis) orthogonal(width, at int) []ratio {
	y := make([]ratio, width)
	for i := range y {
		y[i] = fromInteger(integer{})
	}
	y[at] = fromInteger(fromInt(1))
	for k := len(b.pivots) - 1; k >= 0; k-- {
		column := b.pivots[k]
		if column >= at {
			continue
		}
		sum := fromInteger(integer{})
		for j := column + 1; j <= at; j++ {
			sum = sum.plus(y[j].times(fromInteger(b.rows[k][j])))
		}
		y[column] = sum.over(fromInteger(b.rows[k][column])).negated()
	}
	return y
}

// separator returns a number that divides a, but not b, where a is 0 or does
// not divide b: a small one if there is one, so that multipliers stay short.
func separator(a, b natural) natural {
	for w := uint64(2); len(a) == 0 || w <= smallSeparator; w++ {
		if a.rest(w) == 0 && b.rest(w) != 0 {
			return word(w)
		}
	}
	return a
}

// Refutes reports whether multipliers prove that there is no integer solution.
func Refutes(a [][]api.Num, b, y []api.Num) (bool, api.Errno) {
	q, vectors, e := readEquations(a, b, y)
	if e != api.OK {
		return false, e
	}
	if len(y) != len(q.a) {
		return false, api.ErrArg
	}
	return q.refutedBy(vectors[0]), api.OK
}

// refutedBy reports whether y·a consists of integers and y·b is not one.
func (q equations) refutedBy(y []ratio) bool {
	multipliers, common := scaled(y)
	isInteger := func(v []integer) bool {
		_, rest := dot(multipliers, v).over(whole(common))
		return rest.isZero()
	}
	for _, column := range q.a.transposed() {
		if !isInteger(column) {
			return false
		}
	}
	return !isInteger(q.b)
}
