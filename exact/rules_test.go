package exact_test

import (
	"math/rand"
	"reflect"
	"slices"
	"testing"

	"cracknel/api"
	"cracknel/exact"
)

// A call of a function with a matrix and two vectors; it returns all results
// and the error.
type call struct {
	name string
	do   func(a [][]api.Num, b, y []api.Num) ([]any, api.Errno)
}

func matrixCalls() []call {
	return []call{
		{"Times", func(a [][]api.Num, b, y []api.Num) ([]any, api.Errno) {
			v, e := exact.Times(a, b)
			return []any{v}, e
		}},
		{"Hermite", func(a [][]api.Num, b, y []api.Num) ([]any, api.Errno) {
			h, u, e := exact.Hermite(a)
			return []any{h, u}, e
		}},
		{"Smith", func(a [][]api.Num, b, y []api.Num) ([]any, api.Errno) {
			d, e := exact.Smith(a)
			return []any{d}, e
		}},
		{"Det", func(a [][]api.Num, b, y []api.Num) ([]any, api.Errno) {
			d, e := exact.Det(a)
			return []any{d}, e
		}},
		{"Reduce", func(a [][]api.Num, b, y []api.Num) ([]any, api.Errno) {
			v, e := exact.Reduce(a, b)
			return []any{v}, e
		}},
		{"Solve", func(a [][]api.Num, b, y []api.Num) ([]any, api.Errno) {
			x, basis, e := exact.Solve(a, b)
			return []any{x, basis}, e
		}},
		{"Refuse", func(a [][]api.Num, b, y []api.Num) ([]any, api.Errno) {
			v, e := exact.Refuse(a, b)
			return []any{v}, e
		}},
		{"Refutes", func(a [][]api.Num, b, y []api.Num) ([]any, api.Errno) {
			ok, e := exact.Refutes(a, b, y)
			return []any{ok}, e
		}},
	}
}

// takes reports whether a function has the vectors b and y.
func (c call) takes() (b, y bool) {
	return !slices.Contains([]string{"Hermite", "Smith", "Det"}, c.name), c.name == "Refutes"
}

func (c call) expect(t *testing.T, a [][]api.Num, b, y []api.Num, want api.Errno) {
	t.Helper()
	results, e := c.do(a, b, y)
	if e != want {
		t.Errorf("%s(%.200v, %.100v, %.100v): error %d, want %d", c.name, a, b, y, e, want)
	}
	if e != api.OK {
		expectZero(t, c.name, results)
	}
}

// R3: results beside an error are zero values; a slice may be empty.
func expectZero(t *testing.T, name string, results []any) {
	t.Helper()
	for _, x := range results {
		if v := reflect.ValueOf(x); !v.IsZero() && (v.Kind() != reflect.Slice || v.Len() > 0) {
			t.Errorf("%s: %v beside an error", name, x)
		}
	}
}

// invalidMatrices are those whose Nums are valid.
func invalidMatrices() [][][]api.Num {
	return [][][]api.Num{
		nil, {}, {{}}, {nil}, {nil, nil}, {{}, {"1"}}, {{"1"}, {}}, {{"1", "2"}, {"3"}}, {{"1"}, {"2", "3"}}, {{"1"}, {"2"}, nil},
		{{"1/2"}}, {{"1", "2"}, {"3", "-4/5"}}, {{"0", "1/3"}, {"1", "0"}},
		filled(api.MaxRows+1, 1, "1"), filled(1, api.MaxRows+1, "1"), filled(api.MaxRows+1, api.MaxRows+1, "0"),
		filled(api.MaxRows+1, api.MaxRows, "0"), filled(api.MaxRows, api.MaxRows+1, "0"), filled(100, 0, ""), filled(300, 20, "1"),
	}
}

func TestInvalidMatrices(t *testing.T) {
	for _, c := range matrixCalls() {
		for _, a := range invalidMatrices() {
			for _, n := range []int{0, 1, 2, api.MaxRows} {
				v := slices.Repeat([]api.Num{"1"}, n)
				c.expect(t, a, v, v, api.ErrArg)
				// ErrArg of the matrix comes before ErrForm of what is no integer.
				v = slices.Repeat([]api.Num{"1/2"}, n)
				c.expect(t, a, v, v, api.ErrArg)
			}
		}
	}
}

// A Num that is not valid comes first, wherever it is.
func TestInvalidNumsComeFirst(t *testing.T) {
	matrices := append(invalidMatrices(), mat("1"), mat("1 2; 0 3"), mat("2 1; 1 1; 0 0"), filled(api.MaxRows, api.MaxRows, "1"))
	for _, c := range matrixCalls() {
		takesB, takesY := c.takes()
		for _, bad := range []api.Num{"", "-0", "01", "2/4", "1/1", "1/0", "x", api.Num(digits(api.MaxDigits+1, "1"))} {
			for _, a := range matrices {
				for i, row := range a {
					for _, j := range []int{0, len(row) - 1} {
						if j < 0 || j >= len(row) || i > 2 && i < len(a)-1 {
							continue
						}
						wrong := copied(a)
						wrong[i][j] = bad
						c.expect(t, wrong, nil, nil, api.ErrForm)
						c.expect(t, wrong, vec("1 1"), vec("1/2"), api.ErrForm)
					}
				}
				if takesB {
					c.expect(t, a, []api.Num{"1", "1", "1", bad}, nil, api.ErrForm)
					c.expect(t, a, []api.Num{bad}, vec("1 1"), api.ErrForm)
				}
				if takesY {
					c.expect(t, a, vec("1 1 1 1 1"), []api.Num{"1", bad}, api.ErrForm)
				}
			}
		}
	}
}

// R2: after the matrix each function's own errors come in its order.
func TestOrderOfErrors(t *testing.T) {
	for _, c := range matrixCalls() {
		switch c.name {
		case "Times":
			for _, x := range []string{"", "1", "1 2 3", "1/2"} {
				c.expect(t, mat("1 2; 3 4; 5 6"), vec(x), nil, api.ErrArg)
			}
		case "Det":
			for _, a := range []string{"1 2", "1; 2", "1 2 3; 4 5 6", "0 0; 0 0; 0 0"} {
				c.expect(t, mat(a), nil, nil, api.ErrArg)
			}
		case "Reduce":
			c.expect(t, mat("2 0; 1 0"), vec("1/2 1"), nil, api.ErrArg)
			c.expect(t, mat("1 0; 0 1"), vec("1/2 1 1"), nil, api.ErrArg)
			c.expect(t, mat("1 0; 0 1"), vec("1/2 1"), nil, api.ErrForm)
		case "Solve", "Refuse", "Refutes":
			half := slices.Repeat([]api.Num{"1/2"}, 2)
			c.expect(t, mat("1 2; 3 4"), vec("1 2 3"), half, api.ErrArg)
			c.expect(t, mat("1 2; 3 4"), vec("1"), half, api.ErrArg)
			c.expect(t, mat("1 2; 3 4"), nil, half, api.ErrArg)
			c.expect(t, mat("1 2; 3 4"), vec("1/2 1 1"), half, api.ErrArg)
			c.expect(t, mat("1 2; 3 4"), vec("1/2 1"), half, api.ErrForm)
			c.expect(t, mat("0 0; 0 0"), vec("0 1/3"), half, api.ErrForm)
			if c.name == "Refutes" {
				c.expect(t, mat("1 2; 3 4"), vec("1/2 1"), nil, api.ErrForm)
				c.expect(t, mat("1 2; 3 4"), vec("1 1"), nil, api.ErrArg)
				c.expect(t, mat("1 2; 3 4"), vec("1 1"), vec("1/2"), api.ErrArg)
				c.expect(t, mat("1 2; 3 4"), vec("1 1"), vec("1/2 1/2 1/2"), api.ErrArg)
			}
		}
	}
	// No solution comes before digits: the reduced solution is not asked for.
	n := api.Num(digits(api.MaxDigits, "9"))
	if _, _, e := exact.Solve([][]api.Num{{n, "-1", "0"}, {"0", n, "-1"}, {"0", "0", "0"}}, vec("1 0 1")); e != api.ErrNone {
		t.Errorf("Solve: %d", e)
	}
}

// R1 and the bound: whatever the arguments are, there is a result in time.
func TestOddArguments(t *testing.T) {
	odd := []api.Num{"", "0", "1", "-1", "1/2", "-0", "x", "99999999999999999999", api.Num(digits(api.MaxDigits, "7")), "\xff\xfe", "//", "2/4"}
	r := rand.New(rand.NewSource(1))
	for range 20000 {
		a := make([][]api.Num, r.Intn(4))
		for i := range a {
			a[i] = make([]api.Num, r.Intn(4))
			for j := range a[i] {
				a[i][j] = odd[r.Intn(len(odd)-r.Intn(8))]
			}
		}
		b, y := make([]api.Num, r.Intn(4)), make([]api.Num, r.Intn(4))
		for i := range b {
			b[i] = odd[r.Intn(len(odd))]
		}
		for i := range y {
			y[i] = odd[r.Intn(len(odd))]
		}
		c := matrixCalls()[r.Intn(8)]
		if results, e := c.do(a, b, y); e != api.OK {
			expectZero(t, c.name, results)
		}
	}
}

func TestLargeArguments(t *testing.T) {
	ones := filled(100000, 3, "1")
	long := filled(1, 300000, "-7/3")
	r := rand.New(rand.NewSource(2))
	dense := randomDigits(r, api.MaxRows, api.MaxRows, 400)
	for _, c := range matrixCalls() {
		c.expect(t, ones, vec("1 1 1"), nil, api.ErrArg)
		c.expect(t, long, vec("1"), nil, api.ErrArg)
		if results, e := c.do(dense, dense[0], dense[1]); e != api.OK {
			expectZero(t, c.name, results)
		}
	}
}

// R4: nil and empty slices are the same.
func TestNilAndEmpty(t *testing.T) {
	for _, c := range matrixCalls() {
		for _, a := range [][2][][]api.Num{{nil, {}}, {{nil}, {{}}}, {{nil, nil}, {{}, {}}}, {mat("1 0"), mat("1 0")}} {
			_, e := c.do(a[0], nil, nil)
			_, f := c.do(a[1], []api.Num{}, []api.Num{})
			if e != f {
				t.Errorf("%s: errors %d of nil and %d of empty slices", c.name, e, f)
			}
		}
	}
}

// flat returns pointers to all elements of a result, up to its capacity.
func flat(x any) []*api.Num {
	var out []*api.Num
	switch v := x.(type) {
	case []api.Num:
		v = v[:cap(v)]
		for i := range v {
			out = append(out, &v[i])
		}
	case [][]api.Num:
		for _, row := range v {
			out = append(out, flat(row)...)
		}
	}
	return out
}

// R5 and R6: arguments stay as they are, results are new memory, and the same
// arguments have the same results whatever was done with earlier ones.
func TestMemory(t *testing.T) {
	r := rand.New(rand.NewSource(3))
	for range 300 {
		a := someMatrix(t, r, 4)
		if r.Intn(2) == 0 {
			a = mustHermite(t, a)
		}
		n := len(a)
		if r.Intn(2) == 0 {
			n = len(a[0])
		}
		b, y := randomMatrix(r, 1, n, 9)[0], slices.Repeat([]api.Num{"1/2"}, len(a))
		for _, c := range matrixCalls() {
			givenA, givenB, givenY := copied(a), slices.Clone(b), slices.Clone(y)
			first, e := c.do(givenA, givenB, givenY)
			if !same(givenA, a) || !slices.Equal(givenB, b) || !slices.Equal(givenY, y) {
				t.Fatalf("%s changes its arguments", c.name)
			}
			seen := map[*api.Num]bool{}
			for _, x := range append([]any{givenA, givenB, givenY}, first...) {
				for _, at := range flat(x) {
					if seen[at] {
						t.Fatalf("%s: memory is shared", c.name)
					}
					seen[at] = true
				}
			}
			want, _ := c.do(copied(a), b, y)
			for _, x := range first {
				for _, at := range flat(x) {
					*at = "spoilt"
				}
			}
			again, f := c.do(givenA, givenB, givenY)
			if e != f || !reflect.DeepEqual(again, want) {
				t.Fatalf("%s: %v, %d, and then %v, %d", c.name, want, e, again, f)
			}
		}
	}
}

// R7: numbers of any size are exact, and written without leading zeros or -0.
func TestTextsOfResults(t *testing.T) {
	r := rand.New(rand.NewSource(4))
	for range 300 {
		a := someMatrix(t, r, 5)
		b := transposed(product(t, a, randomMatrix(r, len(a[0]), 1, 9)))[0]
		for _, c := range matrixCalls() {
			results, e := c.do(a, b, b)
			if e != api.OK {
				continue
			}
			for _, x := range results {
				for _, at := range flat(x) {
					if exact.Check(*at) != api.OK {
						t.Fatalf("%s(%v, %v): %q", c.name, a, b, *at)
					}
				}
			}
		}
	}
}
