package exact_test

import (
	"math/big"
	"math/rand"
	"slices"
	"testing"

	"cracknel/api"
	"cracknel/exact"
)

// must returns the result of an operation on Nums that is not refused.
func must(t *testing.T) func(x api.Num, e api.Errno) api.Num {
	return func(x api.Num, e api.Errno) api.Num {
		t.Helper()
		if e != api.OK {
			t.Fatalf("error %d", e)
		}
		return x
	}
}

// E1: the laws of a field, and an order that addition keeps.
func TestField(t *testing.T) {
	r := rand.New(rand.NewSource(1))
	is := must(t)
	for range 2000 {
		size := []int{1, 2, 15, 60, 400}[r.Intn(5)]
		a, b, c := randomNum(r, size), randomNum(r, size), randomNum(r, size)
		if is(exact.Add(a, b)) != is(exact.Add(b, a)) || is(exact.Mul(a, b)) != is(exact.Mul(b, a)) {
			t.Fatalf("not commutative: %q, %q", a, b)
		}
		if is(exact.Add(is(exact.Add(a, b)), c)) != is(exact.Add(a, is(exact.Add(b, c)))) {
			t.Fatalf("Add is not associative: %q, %q, %q", a, b, c)
		}
		if is(exact.Mul(is(exact.Mul(a, b)), c)) != is(exact.Mul(a, is(exact.Mul(b, c)))) {
			t.Fatalf("Mul is not associative: %q, %q, %q", a, b, c)
		}
		if is(exact.Mul(a, is(exact.Add(b, c)))) != is(exact.Add(is(exact.Mul(a, b)), is(exact.Mul(a, c)))) {
			t.Fatalf("not distributive: %q, %q, %q", a, b, c)
		}
		if is(exact.Sub(is(exact.Add(a, b)), b)) != a || is(exact.Add(is(exact.Sub(a, b)), b)) != a {
			t.Fatalf("Sub does not undo Add: %q, %q", a, b)
		}
		if b != "0" && (is(exact.Div(is(exact.Mul(a, b)), b)) != a || is(exact.Mul(is(exact.Div(a, b)), b)) != a) {
			t.Fatalf("Div does not undo Mul: %q, %q", a, b)
		}
		for _, x := range []api.Num{is(exact.Add(a, b)), is(exact.Mul(a, b)), is(exact.Sub(a, b)), is(exact.Floor(a))} {
			if exact.Check(x) != api.OK {
				t.Fatalf("%q is not valid", x)
			}
		}
	}
}

func TestOrder(t *testing.T) {
	r := rand.New(rand.NewSource(2))
	is := must(t)
	compare := func(a, b api.Num) int {
		c, e := exact.Cmp(a, b)
		if e != api.OK {
			t.Fatalf("Cmp(%q, %q): %d", a, b, e)
		}
		return c
	}
	for range 2000 {
		size := []int{1, 2, 15, 60}[r.Intn(4)]
		a, b, c := randomNum(r, size), randomNum(r, size), randomNum(r, size)
		if compare(a, b) != -compare(b, a) || compare(a, a) != 0 || (compare(a, b) == 0) != (a == b) {
			t.Fatalf("no order: %q, %q", a, b)
		}
		if compare(a, b) <= 0 && compare(b, c) <= 0 && compare(a, c) > 0 {
			t.Fatalf("not transitive: %q, %q, %q", a, b, c)
		}
		if compare(is(exact.Add(a, c)), is(exact.Add(b, c))) != compare(a, b) {
			t.Fatalf("Add does not keep the order: %q, %q, %q", a, b, c)
		}
		floor := is(exact.Floor(a))
		if compare(floor, a) > 0 || compare(is(exact.Add(floor, "1")), a) <= 0 {
			t.Fatalf("Floor(%q) = %q", a, floor)
		}
	}
}

// E2: the form depends only on what the rows generate, and tells it.
func TestHermiteIsCanonical(t *testing.T) {
	r := rand.New(rand.NewSource(3))
	for range 400 {
		a := someMatrix(t, r, 6)
		h := mustHermite(t, a)
		u := randomUnimodular(t, r, len(a))
		if got := mustHermite(t, product(t, u, a)); !same(got, h) {
			t.Fatalf("Hermite(u·a) = %v, Hermite(a) = %v, a = %v, u = %v", got, h, a, u)
		}
		if got := mustHermite(t, h); !same(got, h) {
			t.Fatalf("Hermite(%v) = %v", h, got)
		}
		// Each generates the rows of the other one exactly if the forms are equal.
		b := product(t, randomMatrix(r, len(a), len(a), 2), a)
		if equal := same(mustHermite(t, b), h); equal != (generates(t, b, a) && generates(t, a, b)) {
			t.Fatalf("Hermite of %v and %v is equal: %t", a, b, equal)
		}
	}
}

// generates reports whether all rows of b are integer combinations of rows of a.
func generates(t *testing.T, a, b [][]api.Num) bool {
	t.Helper()
	for _, row := range b {
		_, _, e := exact.Solve(transposed(a), row)
		if e != api.OK && e != api.ErrNone {
			t.Fatalf("Solve: %d", e)
		}
		if e == api.ErrNone {
			return false
		}
	}
	return true
}

// E3: the factors are the same after steps of rows and columns, and transposed.
func TestSmithIsInvariant(t *testing.T) {
	r := rand.New(rand.NewSource(4))
	for range 400 {
		a := someMatrix(t, r, 7)
		want, e := exact.Smith(a)
		if e != api.OK || len(want) != min(len(a), len(a[0])) {
			t.Fatalf("Smith(%v) = %v, %d", a, want, e)
		}
		for i := range want[1:] {
			x, y := rat(t, want[i]).Num(), rat(t, want[i+1]).Num()
			if x.Sign() < 0 || y.Sign() < 0 || x.Sign() == 0 && y.Sign() != 0 ||
				x.Sign() != 0 && new(big.Int).Rem(y, x).Sign() != 0 {
				t.Fatalf("Smith(%v) = %v: no chain", a, want)
			}
		}
		left, right := randomUnimodular(t, r, len(a)), randomUnimodular(t, r, len(a[0]))
		for _, b := range [][][]api.Num{product(t, left, a), product(t, a, right), product(t, product(t, left, a), right), transposed(a)} {
			if got, e := exact.Smith(b); e != api.OK || !slices.Equal(got, want) {
				t.Fatalf("Smith(%v) = %v, %d, but of %v it is %v", b, got, e, a, want)
			}
		}
	}
}

// E4: among all vectors of a box the solutions are those that differ from
// Solve's by combinations of its basis, and no others.
func TestSolutionsOfBoxes(t *testing.T) {
	r := rand.New(rand.NewSource(5))
	for range 150 {
		a := randomMatrix(r, 1+r.Intn(3), 1+r.Intn(3), 4)
		b := transposed(product(t, a, randomMatrix(r, len(a[0]), 1, 3)))[0]
		x, basis, e := exact.Solve(a, b)
		if e != api.OK {
			t.Fatalf("Solve(%v, %v): %d", a, b, e)
		}
		eachVector(len(a[0]), 4, func(v []*big.Int) {
			if solves(t, a, b, v) != isIn(t, x, basis, v) {
				t.Fatalf("Solve(%v, %v) = %v, %v: %v", a, b, x, basis, v)
			}
		})
	}
}

func eachVector(n, limit int, do func(v []*big.Int)) {
	v := make([]*big.Int, n)
	var fill func(at int)
	fill = func(at int) {
		if at == n {
			do(v)
			return
		}
		for x := -limit; x <= limit; x++ {
			v[at] = big.NewInt(int64(x))
			fill(at + 1)
		}
	}
	fill(0)
}

func solves(t *testing.T, a [][]api.Num, b []api.Num, v []*big.Int) bool {
	for i, row := range bigMatrix(t, a) {
		sum := new(big.Int)
		for j, x := range row {
			sum.Add(sum, new(big.Int).Mul(x, v[j]))
		}
		if sum.String() != string(b[i]) {
			return false
		}
	}
	return true
}

// isIn reports whether v is x plus a combination of the basis, a matrix in
// Hermite normal form.
func isIn(t *testing.T, x []api.Num, basis [][]api.Num, v []*big.Int) bool {
	rest := bigVector(t, x)
	for j := range rest {
		rest[j].Sub(v[j], rest[j])
	}
	for _, row := range bigMatrix(t, basis) {
		pivot := slices.IndexFunc(row, func(x *big.Int) bool { return x.Sign() != 0 })
		subtractRow(rest, new(big.Int).Div(rest[pivot], row[pivot]), row)
	}
	return !slices.ContainsFunc(rest, func(x *big.Int) bool { return x.Sign() != 0 })
}

// E5: of all equations with few and small numbers, one of the two refuses.
func TestKronecker(t *testing.T) {
	count := map[bool]int{}
	eachVector(3, 6, func(v []*big.Int) {
		texts := nums(v)
		count[checkEquations(t, [][]api.Num{texts[:2]}, texts[2:])]++
		count[checkEquations(t, [][]api.Num{texts[:1], texts[1:2]}, []api.Num{texts[2], "2"})]++
	})
	if count[true] == 0 || count[false] == 0 {
		t.Errorf("solved and refused: %v", count)
	}
}

// E6: the determinant is the product of pivots and of invariant factors, up to
// its sign.
func TestDeterminantOfForms(t *testing.T) {
	r := rand.New(rand.NewSource(6))
	for range 300 {
		n := 1 + r.Intn(8)
		a := randomMatrix(r, n, n, []int{1, 5, 999999999}[r.Intn(3)])
		d, e := exact.Det(a)
		if e != api.OK {
			t.Fatalf("Det(%v): %d", a, e)
		}
		factors, e := exact.Smith(a)
		if e != api.OK {
			t.Fatalf("Smith(%v): %d", a, e)
		}
		h := mustHermite(t, a)
		pivots, chain := big.NewInt(1), big.NewInt(1)
		for i := range n {
			pivots.Mul(pivots, rat(t, h[i][i]).Num())
			chain.Mul(chain, rat(t, factors[i]).Num())
		}
		want := new(big.Int).Abs(rat(t, d).Num())
		if pivots.Cmp(want) != 0 || chain.Cmp(want) != 0 {
			t.Fatalf("Det(%v) = %q, pivots %v, factors %v", a, d, pivots, chain)
		}
	}
}

// P1 and P2: values are exact however close they are, and multipliers that
// prove nothing are not accepted.
func TestExactAndCertain(t *testing.T) {
	long := digits(1000, "3")
	a, b := api.Num(long+"/"+string(power(1000))), api.Num(long+"1/"+string(power(1001)))
	if c, e := exact.Cmp(a, b); e != api.OK || c != -1+2*boolInt(rat(t, a).Cmp(rat(t, b)) > 0) {
		t.Errorf("Cmp of numbers that differ in the 1001st digit = %d, %d", c, e)
	}
	r := rand.New(rand.NewSource(7))
	accepted := 0
	for range 2000 {
		m := randomMatrix(r, 2, 2, 6)
		right := randomMatrix(r, 1, 2, 6)[0]
		y := []api.Num{randomNum(r, 1), randomNum(r, 1)}
		ok, e := exact.Refutes(m, right, y)
		if e != api.OK {
			t.Fatalf("Refutes: %d", e)
		}
		if _, _, e := exact.Solve(m, right); ok && e != api.ErrNone {
			t.Fatalf("Refutes(%v, %v, %v), but there is a solution", m, right, y)
		}
		accepted += boolInt(ok)
	}
	if accepted == 0 {
		t.Error("no multipliers were accepted")
	}
}

func boolInt(b bool) int {
	if b {
		return 1
	}
	return 0
}

// P3: the solution is the reduced one, whatever the sign and the order of the
// equations are; so it is the only one that the document allows.
func TestSolutionIsTheReducedOne(t *testing.T) {
	r := rand.New(rand.NewSource(8))
	for range 200 {
		a := someMatrix(t, r, 5)
		b := transposed(product(t, a, randomMatrix(r, len(a[0]), 1, 30)))[0]
		x, basis, e := exact.Solve(a, b)
		if e != api.OK {
			t.Fatalf("Solve(%v, %v): %d", a, b, e)
		}
		u := randomUnimodular(t, r, len(a))
		right := transposed(product(t, u, transposed([][]api.Num{b})))[0]
		y, other, e := exact.Solve(product(t, u, a), right)
		if e != api.OK || !slices.Equal(x, y) || !same(basis, other) {
			t.Fatalf("Solve(%v, %v) = %v, %v, but after steps of rows %v, %v, %d", a, b, x, basis, y, other, e)
		}
	}
}
