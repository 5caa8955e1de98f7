package exact_test

import (
	"math/big"
	"math/rand"
	"slices"
	"testing"

	"cracknel/api"
	"cracknel/exact"
)

// checkEquations checks all that the document says of Solve, Refuse and
// Refutes, and returns whether there is a solution.
func checkEquations(t *testing.T, a [][]api.Num, b []api.Num) bool {
	t.Helper()
	x, basis, e := exact.Solve(a, b)
	y, f := exact.Refuse(a, b)
	switch {
	case e == api.OK && f == api.ErrNone:
		checkSolution(t, a, b, x, basis)
		if y != nil {
			t.Fatalf("Refuse(%v, %v) = %v", a, b, y)
		}
		return true
	case e == api.ErrNone && f == api.OK:
		if x != nil || basis != nil {
			t.Fatalf("Solve(%v, %v) = %v, %v", a, b, x, basis)
		}
		if ok, e := exact.Refutes(a, b, y); e != api.OK || !ok || !refutes(t, a, b, y) {
			t.Fatalf("Refuse(%v, %v) = %v, Refutes %t, %d", a, b, y, ok, e)
		}
		return false
	}
	t.Fatalf("Solve and Refuse(%v, %v): %d, %d", a, b, e, f)
	return false
}

func checkSolution(t *testing.T, a [][]api.Num, b, x []api.Num, basis [][]api.Num) {
	t.Helper()
	if got, e := exact.Times(a, x); e != api.OK || !slices.Equal(got, b) {
		t.Fatalf("Solve(%v, %v) = %v: a·x = %v", a, b, x, got)
	}
	rank := 0
	for _, row := range plainHermite(t, a) {
		if slices.ContainsFunc(row, func(x api.Num) bool { return x != "0" }) {
			rank++
		}
	}
	if len(basis) != len(a[0])-rank {
		t.Fatalf("Solve(%v, %v): basis %v, but the rank is %d", a, b, basis, rank)
	}
	if len(basis) == 0 {
		return
	}
	for _, row := range basis {
		if got, e := exact.Times(a, row); e != api.OK || slices.ContainsFunc(got, func(x api.Num) bool { return x != "0" }) {
			t.Fatalf("Solve(%v, %v): a times %v of the basis is %v", a, b, row, got)
		}
	}
	// Rows that are independent generate all integer solutions that they span
	// exactly if their invariant factors are 1.
	if d, e := exact.Smith(basis); e != api.OK || slices.ContainsFunc(d, func(x api.Num) bool { return x != "1" }) {
		t.Fatalf("Solve(%v, %v): basis %v with the invariant factors %v", a, b, basis, d)
	}
	if !same(plainHermite(t, basis), basis) {
		t.Fatalf("Solve(%v, %v): the basis %v has another form", a, b, basis)
	}
	if got, e := exact.Reduce(basis, x); e != api.OK || !slices.Equal(got, x) {
		t.Fatalf("Solve(%v, %v): %v is not reduced by %v", a, b, x, basis)
	}
}

// refutes is Refutes in math/big.
func refutes(t *testing.T, a [][]api.Num, b, y []api.Num) bool {
	t.Helper()
	isInteger := func(v []api.Num) bool {
		sum := new(big.Rat)
		for i := range v {
			sum.Add(sum, new(big.Rat).Mul(rat(t, v[i]), rat(t, y[i])))
		}
		return sum.IsInt()
	}
	for _, column := range transposed(a) {
		if !isInteger(column) {
			return false
		}
	}
	return !isInteger(b)
}

func TestSolveOfExamples(t *testing.T) {
	for _, c := range []struct{ a, b, x, basis string }{
		{"2 3", "7", "2 1", "3 -2"}, {"1", "5", "5", ""}, {"-3", "6", "-2", ""}, {"0", "0", "0", "1"},
		{"0 0", "0", "0 0", "1 0; 0 1"}, {"1 1", "0", "0 0", "1 -1"}, {"0 2", "4", "0 2", "1 0"}, {"2 0", "4", "2 0", "0 1"},
		{"1 0; 0 1", "3 -4", "3 -4", ""}, {"1 1 1", "6", "0 0 6", "1 0 -1; 0 1 -1"}, {"2; 3", "4 6", "2", ""},
		{"6 10 15", "1", "1 1 -1", "5 0 -2; 0 3 -2"}, {"0 0; 3 5", "0 1", "2 -1", "5 -3"}, {"1 2; 2 4", "3 6", "1 1", "2 -1"},
		{"-2 -3", "-7", "2 1", "3 -2"}, {"3 2", "7", "1 2", "2 -3"},
	} {
		a, b := mat(c.a), vec(c.b)
		want := [][]api.Num{}
		if c.basis != "" {
			want = mat(c.basis)
		}
		x, basis, e := exact.Solve(a, b)
		if e != api.OK || !slices.Equal(x, vec(c.x)) || !same(basis, want) {
			t.Errorf("Solve(%s, %s) = %v, %v, %d, want %s, %s", c.a, c.b, x, basis, e, c.x, c.basis)
		}
		checkEquations(t, a, b)
	}
}

func TestNoSolution(t *testing.T) {
	for _, c := range []struct{ a, b string }{
		{"2 4", "7"}, {"0", "1"}, {"0 0", "-3"}, {"2", "1"}, {"1; 1", "1 2"}, {"2 0; 0 2", "2 1"}, {"1 2; 2 4", "3 7"}, {"6 10 14", "1"},
		{"2 1; 0 3; 0 0", "0 0 1"}, {"2 1; 0 3", "1 1"}, {"0 0; 0 0", "0 5"}, {"1 2; 3 6", "1 2"}, {"0", "720720"}, {"1009", "1"}, {"1009 2018; 0 1013", "1 0"},
	} {
		if checkEquations(t, mat(c.a), vec(c.b)) {
			t.Errorf("%s times x = %s has a solution", c.a, c.b)
		}
	}
}

func TestRandomEquations(t *testing.T) {
	r := rand.New(rand.NewSource(1))
	solved := 0
	for range 1500 {
		greatest := []int{2, 4, 6}[r.Intn(3)]
		a := someMatrix(t, r, greatest)
		b := randomMatrix(r, 1, len(a), 20)[0]
		if r.Intn(2) == 0 {
			x := randomMatrix(r, len(a[0]), 1, 9)
			b = transposed(product(t, a, x))[0]
			if !checkEquations(t, a, b) {
				t.Fatalf("Solve(%v, %v): ErrNone, but %v solves it", a, b, x)
			}
		}
		if checkEquations(t, a, b) {
			solved++
		}
	}
	if solved == 0 || solved == 1500 {
		t.Errorf("%d equations of 1500 had a solution", solved)
	}
	for range 30 {
		a := someMatrix(t, r, api.MaxRows)
		checkEquations(t, a, transposed(product(t, a, randomMatrix(r, len(a[0]), 1, 99)))[0])
		checkEquations(t, a, randomMatrix(r, 1, len(a), 99)[0])
	}
}

// A fraction that is no integer in every element of the solution, and one that
// only its last element shows.
func TestRefuseOfFractions(t *testing.T) {
	r := rand.New(rand.NewSource(2))
	for range 300 {
		n := 1 + r.Intn(6)
		d := unit(n)
		d[n-1][n-1] = api.Num(big.NewInt(int64(2 + r.Intn(5000))).String())
		a := product(t, product(t, randomUnimodular(t, r, n), d), randomUnimodular(t, r, n))
		b := randomMatrix(r, 1, n, 50)[0]
		checkEquations(t, a, b)
	}
}

func TestEquationsAtTheLimit(t *testing.T) {
	n, m := api.Num(digits(api.MaxDigits, "9")), power(api.MaxDigits-1)
	checkEquations(t, [][]api.Num{{n, m}}, []api.Num{n})
	checkEquations(t, [][]api.Num{{n, "0"}, {"0", n}}, []api.Num{n, "0"})
	checkEquations(t, [][]api.Num{{n, "0"}, {"0", n}}, []api.Num{"-" + n, m})
	checkEquations(t, [][]api.Num{{n}}, []api.Num{m})
	checkEquations(t, [][]api.Num{{"0"}}, []api.Num{n})
	// The solutions of these are too long: 1, n, n·n.
	a := [][]api.Num{{n, "-1", "0"}, {"0", n, "-1"}}
	for _, b := range [][]api.Num{{"0", "0"}, {"1", "0"}} {
		if x, basis, e := exact.Solve(a, b); e != api.ErrRange || x != nil || basis != nil {
			t.Errorf("Solve beyond the limit: %d", e)
		}
		if y, e := exact.Refuse(a, b); e != api.ErrNone || y != nil {
			t.Errorf("Refuse of equations that have a solution: %d", e)
		}
	}
	square := [][]api.Num{{"1", n}, {"0", "1"}}
	if x, basis, e := exact.Solve(square, []api.Num{"0", n}); e != api.ErrRange || x != nil || basis != nil {
		t.Errorf("Solve with a long solution: %d", e)
	}
	// That there is no solution is said even of what is hard to prove in short.
	long := [][]api.Num{{n, "1"}, {"1", m}}
	if x, basis, e := exact.Solve(long, []api.Num{"1", "1"}); e != api.ErrNone || x != nil || basis != nil {
		t.Errorf("Solve without a solution: %d", e)
	}
	switch y, e := exact.Refuse(long, []api.Num{"1", "1"}); e {
	case api.OK:
		if !refutes(t, long, []api.Num{"1", "1"}, y) {
			t.Error("Refuse returns what refutes nothing")
		}
	case api.ErrRange:
	default:
		t.Errorf("Refuse without a solution: %d", e)
	}
}

func TestRefutes(t *testing.T) {
	for _, c := range []struct {
		a, b, y string
		want    bool
	}{
		{"2 4", "7", "1/2", true}, {"2 4", "7", "-1/2", true}, {"2 4", "7", "3/2", true}, {"2 4", "7", "1", false}, {"2 4", "7", "0", false},
		{"2 4", "7", "1/4", false}, {"2 4", "7", "1/3", false}, {"2 4", "8", "1/2", false}, {"2 3", "7", "1/2", false}, {"0", "1", "1/2", true},
		{"0", "1", "123/457", true}, {"0", "1", "5", false}, {"1; 1", "1 2", "1/2 -1/2", true}, {"1; 1", "1 2", "1/2 1/2", true},
		{"1; 1", "1 3", "1/2 1/2", false}, {"1; 1", "1 2", "1/2 1/3", false}, {"6 0; 0 10", "3 5", "1/6 1/10", false}, {"6 0; 0 10", "3 4", "1/6 1/10", true},
		{"1 0; 0 1", "1 1", "1/2 1/2", false}, {"2 0; 0 1", "1 1", "1/2 1/2", false},
	} {
		if ok, e := exact.Refutes(mat(c.a), vec(c.b), vec(c.y)); e != api.OK || ok != c.want {
			t.Errorf("Refutes(%s, %s, %s) = %t, %d", c.a, c.b, c.y, ok, e)
		}
	}
}

func TestRefutesOfRandomMultipliers(t *testing.T) {
	r := rand.New(rand.NewSource(3))
	for range 3000 {
		a := someMatrix(t, r, 3)
		b := randomMatrix(r, 1, len(a), 9)[0]
		y := make([]api.Num, len(a))
		for i := range y {
			y[i] = num(big.NewRat(int64(r.Intn(21)-10), int64(1+r.Intn(6))))
		}
		if ok, e := exact.Refutes(a, b, y); e != api.OK || ok != refutes(t, a, b, y) {
			t.Fatalf("Refutes(%v, %v, %v) = %t, %d", a, b, y, ok, e)
		}
	}
	n := api.Num(digits(api.MaxDigits, "9"))
	if ok, e := exact.Refutes([][]api.Num{{n}}, []api.Num{"1"}, []api.Num{"1/" + n}); e != api.OK || !ok {
		t.Errorf("Refutes at the limit = %t, %d", ok, e)
	}
	if ok, e := exact.Refutes([][]api.Num{{n}, {n}}, []api.Num{n, "1"}, []api.Num{"1/" + n, "1/" + power(api.MaxDigits-1)}); e != api.OK || ok {
		t.Errorf("Refutes at the limit = %t, %d", ok, e)
	}
}
