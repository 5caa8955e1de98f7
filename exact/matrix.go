package exact

import (
	"cracknel/api"
	"cracknel/number"
)

// A matrix has rows of the same length.
type matrix [][]number.Integer

// readMatrix reads a matrix and vectors: ErrForm of any Num of them comes
// before ErrArg of the matrix.
func readMatrix(a [][]api.Num, vectors ...[]api.Num) (matrix, [][]number.Ratio, api.Errno) {
	rows, e := readRows(a)
	if e != api.OK {
		return nil, nil, e
	}
	values, e := readRows(vectors)
	if e != api.OK {
		return nil, nil, e
	}
	m, ok := newMatrix(rows)
	if !ok {
		return nil, nil, api.ErrArg
	}
	return m, values, api.OK
}

func readRows(rows [][]api.Num) ([][]number.Ratio, api.Errno) {
	out := make([][]number.Ratio, 0, len(rows))
	for _, row := range rows {
		values, e := read(row...)
		if e != api.OK {
			return nil, e
		}
		out = append(out, values)
	}
	return out, api.OK
}

// newMatrix returns the matrix of rows, or false if they are not a valid one.
func newMatrix(rows [][]number.Ratio) (matrix, bool) {
	if !isSide(len(rows)) || !isSide(len(rows[0])) {
		return nil, false
	}
	m := make(matrix, 0, len(rows))
	for _, row := range rows {
		values, ok := integers(row)
		if !ok || len(row) != len(rows[0]) {
			return nil, false
		}
		m = append(m, values)
	}
	return m, true
}

func isSide(n int) bool { return 1 <= n && n <= api.MaxRows }

// integers returns the values of a vector, or false if one is no integer.
func integers(v []number.Ratio) ([]number.Integer, bool) {
	out := make([]number.Integer, len(v))
	for i, x := range v {
		if !x.IsInteger() {
			return nil, false
		}
		out[i] = x.Num()
	}
	return out, true
}

func (m matrix) columns() int { return len(m[0]) }

func (m matrix) transposed() matrix {
	out := make(matrix, m.columns())
	for j := range out {
		out[j] = make([]number.Integer, len(m))
		for i := range m {
			out[j][i] = m[i][j]
		}
	}
	return out
}

// withUnits returns the matrix with the columns of a unit matrix after its own.
func (m matrix) withUnits() matrix {
	out := make(matrix, len(m))
	for i, row := range m {
		out[i] = make([]number.Integer, len(row)+len(m))
		copy(out[i], row)
		out[i][len(row)+i] = number.Of(1)
	}
	return out
}

// writeEach writes the elements one by one, until one has too many digits.
func writeEach[T, U any](values []T, write func(T) (U, api.Errno)) ([]U, api.Errno) {
	out := make([]U, len(values))
	for i, x := range values {
		text, e := write(x)
		if e != api.OK {
			return nil, e
		}
		out[i] = text
	}
	return out, api.OK
}

func writeVector(v []number.Ratio) ([]api.Num, api.Errno) { return writeEach(v, write) }

func writeIntegers(v []number.Integer) ([]api.Num, api.Errno) {
	return writeEach(v, func(x number.Integer) (api.Num, api.Errno) { return write(number.Whole(x)) })
}

func writeMatrix(m matrix) ([][]api.Num, api.Errno) { return writeEach(m, writeIntegers) }

// Times returns the product of a matrix and a vector.
func Times(a [][]api.Num, x []api.Num) ([]api.Num, api.Errno) {
	m, vectors, e := readMatrix(a, x)
	if e != api.OK {
		return nil, e
	}
	if len(x) != m.columns() {
		return nil, api.ErrArg
	}
	values, common := number.Scaled(vectors[0])
	out := make([]number.Ratio, len(m))
	for i, row := range m {
		out[i] = number.New(number.Dot(row, values), common)
	}
	return writeVector(out)
}

// Det returns a determinant.
func Det(a [][]api.Num) (api.Num, api.Errno) {
	m, _, e := readMatrix(a)
	if e != api.OK {
		return "", e
	}
	if len(m) != m.columns() {
		return "", api.ErrArg
	}
	return write(number.Whole(m.determinant()))
}

// determinant eliminates without fractions (Bareiss) and uses up the matrix:
// every entry on the way is a determinant of a part of it, which is why the
// divisions leave no remainder.
func (m matrix) determinant() number.Integer {
	negative := false
	last := number.Of(1)
	for k := range m {
		pivot := k
		for pivot < len(m) && m[pivot][k].IsZero() {
			pivot++
		}
		if pivot == len(m) {
			return number.Integer{}
		}
		if pivot != k {
			m[k], m[pivot] = m[pivot], m[k]
			negative = !negative
		}
		for i := k + 1; i < len(m); i++ {
			for j := k + 1; j < len(m); j++ {
				m[i][j] = number.Cross(m[k][k], m[i][j], m[i][k], m[k][j], last)
			}
		}
		last = m[k][k]
	}
	if negative {
		return last.Negated()
	}
	return last
}
