package exact

import (
	"cracknel/api"
	"cracknel/lattice"
	"cracknel/number"
)

// Smith returns the invariant factors of a matrix.
func Smith(a [][]api.Num) ([]api.Num, api.Errno) {
	m, _, e := readMatrix(a)
	if e != api.OK {
		return nil, e
	}
	out := make([]number.Integer, min(len(m), m.columns()))
	copy(out, divideChain(m.diagonal()))
	return writeIntegers(out)
}

// diagonal returns the numbers of a diagonal matrix to which row and column
// steps lead, without zeros. It takes normal forms of rows and of columns by
// turns: the first pivot becomes a proper divisor of itself each time, until
// it divides its row and stands alone; then so does the next one.
func (m matrix) diagonal() []number.Integer {
	b := lattice.New(m)
	for !isDiagonal(b) {
		b = lattice.New(matrix(b.Rows).transposed())
	}
	out := make([]number.Integer, len(b.Rows))
	for i, column := range b.Pivots {
		out[i] = b.Rows[i][column]
	}
	return out
}

// isDiagonal reports whether all entries of a basis but its pivots are 0.
func isDiagonal(b lattice.Basis) bool {
	for i, row := range b.Rows {
		if lattice.Zeros(row[b.Pivots[i]+1:]) < len(row)-b.Pivots[i]-1 {
			return false
		}
	}
	return true
}

// divideChain replaces pairs of numbers by their greatest common divisor and
// their least common multiple, until each number divides the next one.
func divideChain(numbers []number.Integer) []number.Integer {
	for i := range numbers {
		for j := i + 1; j < len(numbers); j++ {
			g := number.Divisor(numbers[i], numbers[j])
			numbers[j] = numbers[i].DividedBy(g).Times(numbers[j])
			numbers[i] = g
		}
	}
	return numbers
}
