package exact_test

import (
	"math/big"
	"math/rand"
	"slices"
	"strings"
	"testing"

	"cracknel/api"
	"cracknel/exact"
)

// vec reads a vector: Nums that are separated by blanks.
func vec(s string) []api.Num {
	out := []api.Num{}
	for _, x := range strings.Fields(s) {
		out = append(out, api.Num(x))
	}
	return out
}

// mat reads a matrix: rows that are separated by semicolons.
func mat(s string) [][]api.Num {
	out := [][]api.Num{}
	for _, row := range strings.Split(s, ";") {
		out = append(out, vec(row))
	}
	return out
}

func filled(rows, columns int, x api.Num) [][]api.Num {
	out := make([][]api.Num, rows)
	for i := range out {
		out[i] = slices.Repeat([]api.Num{x}, columns)
	}
	return out
}

func unit(n int) [][]api.Num {
	out := filled(n, n, "0")
	for i := range out {
		out[i][i] = "1"
	}
	return out
}

func copied(a [][]api.Num) [][]api.Num {
	out := make([][]api.Num, len(a))
	for i, row := range a {
		out[i] = slices.Clone(row)
	}
	return out
}

func same(a, b [][]api.Num) bool { return slices.EqualFunc(a, b, slices.Equal[[]api.Num]) }

func digits(n int, d string) string { return strings.Repeat(d, n) }

// power returns 10^n.
func power(n int) api.Num { return api.Num("1" + digits(n, "0")) }

// The oracle: the same values in math/big, and the textbook's algorithms.

func rat(t *testing.T, x api.Num) *big.Rat {
	t.Helper()
	out, ok := new(big.Rat).SetString(string(x))
	if !ok {
		t.Fatalf("%q is no number", x)
	}
	return out
}

func num(x *big.Rat) api.Num { return api.Num(x.RatString()) }

func bigVector(t *testing.T, v []api.Num) []*big.Int {
	t.Helper()
	out := make([]*big.Int, len(v))
	for i, x := range v {
		n, ok := new(big.Int).SetString(string(x), 10)
		if !ok {
			t.Fatalf("%q is no integer", x)
		}
		out[i] = n
	}
	return out
}

func bigMatrix(t *testing.T, a [][]api.Num) [][]*big.Int {
	t.Helper()
	out := make([][]*big.Int, len(a))
	for i, row := range a {
		out[i] = bigVector(t, row)
	}
	return out
}

func nums(v []*big.Int) []api.Num {
	out := make([]api.Num, len(v))
	for i, x := range v {
		out[i] = api.Num(x.String())
	}
	return out
}

func numMatrix(a [][]*big.Int) [][]api.Num {
	out := make([][]api.Num, len(a))
	for i, row := range a {
		out[i] = nums(row)
	}
	return out
}

func transposed(a [][]api.Num) [][]api.Num {
	out := make([][]api.Num, len(a[0]))
	for j := range out {
		for i := range a {
			out[j] = append(out[j], a[i][j])
		}
	}
	return out
}

func product(t *testing.T, a, b [][]api.Num) [][]api.Num {
	t.Helper()
	x, y := bigMatrix(t, a), bigMatrix(t, b)
	out := make([][]*big.Int, len(x))
	for i := range x {
		out[i] = make([]*big.Int, len(y[0]))
		for j := range out[i] {
			sum := new(big.Int)
			for k := range y {
				sum.Add(sum, new(big.Int).Mul(x[i][k], y[k][j]))
			}
			out[i][j] = sum
		}
	}
	return numMatrix(out)
}

// minor returns the determinant of the part with these rows and columns, by
// expansion along its first row.
func minor(a [][]*big.Int, rows, columns []int) *big.Int {
	if len(rows) == 0 {
		return big.NewInt(1)
	}
	out := new(big.Int)
	for k, column := range columns {
		rest := slices.Delete(slices.Clone(columns), k, k+1)
		part := new(big.Int).Mul(a[rows[0]][column], minor(a, rows[1:], rest))
		if k%2 == 1 {
			part.Neg(part)
		}
		out.Add(out, part)
	}
	return out
}

// choices returns all rising slices of k numbers below n.
func choices(n, k int) [][]int {
	if k == 0 {
		return [][]int{nil}
	}
	var out [][]int
	for last := k - 1; last < n; last++ {
		for _, first := range choices(last, k-1) {
			out = append(out, append(slices.Clone(first), last))
		}
	}
	return out
}

func upTo(n int) []int {
	out := make([]int, n)
	for i := range out {
		out[i] = i
	}
	return out
}

// plainHermite computes the Hermite normal form by Euclid's algorithm in each
// column, one after the other.
func plainHermite(t *testing.T, a [][]api.Num) [][]api.Num {
	m := bigMatrix(t, a)
	top := 0
	for column := range m[0] {
		for i := top + 1; i < len(m); i++ {
			for m[i][column].Sign() != 0 {
				m[top], m[i] = m[i], m[top]
				subtractRow(m[i], new(big.Int).Quo(m[i][column], m[top][column]), m[top])
			}
		}
		if top == len(m) || m[top][column].Sign() == 0 {
			continue
		}
		if m[top][column].Sign() < 0 {
			for _, x := range m[top] {
				x.Neg(x)
			}
		}
		for i := range top {
			subtractRow(m[i], new(big.Int).Div(m[i][column], m[top][column]), m[top])
		}
		top++
	}
	return numMatrix(m)
}

func subtractRow(v []*big.Int, factor *big.Int, row []*big.Int) {
	for j := range v {
		v[j] = new(big.Int).Sub(v[j], new(big.Int).Mul(factor, row[j]))
	}
}

// Random arguments.

func randomInteger(r *rand.Rand, digits int) api.Num {
	limit := new(big.Int).Exp(big.NewInt(10), big.NewInt(int64(digits)), nil)
	x := new(big.Int).Rand(r, limit)
	if r.Intn(2) == 0 {
		x.Neg(x)
	}
	return api.Num(x.String())
}

func randomNum(r *rand.Rand, digits int) api.Num {
	top, _ := new(big.Int).SetString(string(randomInteger(r, 1+r.Intn(digits))), 10)
	bottom, _ := new(big.Int).SetString(string(randomInteger(r, 1+r.Intn(digits))), 10)
	if bottom.Sign() == 0 || r.Intn(4) == 0 {
		bottom.SetInt64(1)
	}
	return num(new(big.Rat).SetFrac(top, bottom))
}

func randomMatrix(r *rand.Rand, rows, columns, limit int) [][]api.Num {
	out := make([][]api.Num, rows)
	for i := range out {
		for range columns {
			x := big.NewInt(int64(r.Intn(2*limit+1) - limit))
			out[i] = append(out[i], api.Num(x.String()))
		}
	}
	return out
}

func randomDigits(r *rand.Rand, rows, columns, digits int) [][]api.Num {
	out := make([][]api.Num, rows)
	for i := range out {
		for range columns {
			out[i] = append(out[i], randomInteger(r, digits))
		}
	}
	return out
}

// randomUnimodular returns an integer matrix of determinant 1 or -1.
func randomUnimodular(t *testing.T, r *rand.Rand, n int) [][]api.Num {
	m := bigMatrix(t, unit(n))
	for range 3 * n {
		i, j := r.Intn(n), r.Intn(n)
		if i == j {
			for _, x := range m[i] {
				x.Neg(x)
			}
			continue
		}
		subtractRow(m[i], big.NewInt(int64(r.Intn(7)-3)), m[j])
		m[i], m[j] = m[j], m[i]
	}
	return numMatrix(m)
}

// someMatrix returns matrices of all shapes and ranks, among them rows that
// are zero and rows that depend on one another.
func someMatrix(t *testing.T, r *rand.Rand, greatest int) [][]api.Num {
	rows, columns := 1+r.Intn(greatest), 1+r.Intn(greatest)
	limit := []int{1, 3, 12, 1000, 999999999}[r.Intn(5)]
	if r.Intn(2) == 0 {
		return randomMatrix(r, rows, columns, limit)
	}
	inner := 1 + r.Intn(greatest)
	out := product(t, randomMatrix(r, rows, inner, 4), randomMatrix(r, inner, columns, limit))
	if r.Intn(3) == 0 {
		out[r.Intn(rows)] = slices.Repeat([]api.Num{"0"}, columns)
	}
	return out
}

func mustHermite(t *testing.T, a [][]api.Num) [][]api.Num {
	t.Helper()
	h, _, e := exact.Hermite(a)
	if e != api.OK {
		t.Fatalf("Hermite(%v): %d", a, e)
	}
	return h
}
