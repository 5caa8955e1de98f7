package blend_test

import (
	"math/rand"
	"reflect"
	"slices"
	"testing"

	"cracknel/api"
	"cracknel/blend"
)

// A call of a function with a program; it returns all results and the error.
type call struct {
	name string
	do   func(p api.Program) ([]any, api.Errno)
}

func calls() []call {
	return []call{
		{"Check", func(p api.Program) ([]any, api.Errno) { return nil, blend.Check(p) }},
		{"Solve", func(p api.Program) ([]any, api.Errno) {
			a, e := blend.Solve(p)
			return []any{a}, e
		}},
		{"Right", func(p api.Program) ([]any, api.Errno) {
			ok, e := blend.Right(p, api.Answer{})
			return []any{ok}, e
		}},
		{"Spread", func(p api.Program) ([]any, api.Errno) {
			low, high, e := blend.Spread(p, 0)
			return []any{low, high}, e
		}},
		{"Curve", func(p api.Program) ([]any, api.Errno) {
			corners, e := blend.Curve(p, 0, "0", "5/2")
			return []any{corners}, e
		}},
	}
}

// R3: results beside an error are zero values; a slice may be empty.
func expectError(t *testing.T, c call, p api.Program, want api.Errno) {
	t.Helper()
	results, e := c.do(p)
	if e != want {
		t.Errorf("%s(%.300v): error %d, want %d", c.name, p, e, want)
	}
	for _, x := range results {
		if a, ok := x.(api.Answer); ok {
			results = append(results, a.Kind, a.X, a.Value, a.Y, a.Ray)
			continue
		}
		expectZero(t, c.name, x)
	}
}

func expectZero(t *testing.T, name string, x any) {
	t.Helper()
	if v := reflect.ValueOf(x); !v.IsZero() && (v.Kind() != reflect.Slice || v.Len() > 0) {
		t.Errorf("%s: %v beside an error", name, x)
	}
}

func expectErrors(t *testing.T, p api.Program, want api.Errno) {
	t.Helper()
	for _, c := range calls() {
		expectError(t, c, p, want)
	}
}

// wide returns a valid program of any size, in which all Nums are x.
func wide(variables, rows int, x api.Num) api.Program {
	p := api.Program{Cost: slices.Repeat([]api.Num{x}, variables)}
	for range rows {
		p.Rows = append(p.Rows, api.Row{Coef: slices.Repeat([]api.Num{x}, variables), Kind: api.AtMost, Right: x})
	}
	return p
}

func TestCheck(t *testing.T) {
	for _, p := range []api.Program{
		wide(1, 0, "0"), wide(1, 1, "-1/2"), wide(api.MaxVars, api.MaxLimits, "1"), wide(1, api.MaxLimits, "0"), wide(api.MaxVars, 0, "1"),
		wide(2, 2, api.Num("-"+digits(40, "9"))), wide(2, 2, api.Num("-"+digits(40, "9")+"/1"+digits(39, "0"))), prog("1 2", "3 4 = 5", "6 7 >= 8"),
	} {
		if e := blend.Check(p); e != api.OK {
			t.Errorf("Check(%v): %d", p, e)
		}
	}
}

// invalid returns programs that are not valid, though their Nums are.
func invalid() []api.Program {
	long := api.Num("1" + digits(40, "0"))
	out := []api.Program{
		{}, {Cost: []api.Num{}}, {Rows: []api.Row{}}, wide(0, 1, "1"), wide(0, 3, "0"), {Rows: []api.Row{{Right: "1", Kind: 1}}},
		wide(api.MaxVars+1, 0, "1"), wide(api.MaxVars+1, 2, "1"), wide(1, api.MaxLimits+1, "1"), wide(api.MaxVars, api.MaxLimits+1, "0"),
		wide(api.MaxVars+1, api.MaxLimits+1, "0"), wide(3000, 0, "0"), wide(2, 3000, "1/3"), wide(1, 1, long), wide(1, 0, "-"+long),
		wide(1, 0, "1/"+long), wide(1, 0, "-7/"+long), wide(1, 0, api.Num(digits(api.MaxDigits, "1"))), wide(2, 1, "1"+long+"/3"),
	}
	for _, kind := range []int{0, 4, -1, 5, 1 << 40, -1 << 62} {
		p := prog("1 2", "3 4 <= 5", "6 7 >= 8")
		p.Rows[1].Kind = kind
		out = append(out, p)
	}
	for _, coef := range []string{"", "1", "1 2 3", "0 0 0 0"} {
		for k := range 2 {
			p := prog("1 2", "3 4 <= 5", "6 7 >= 8")
			p.Rows[k].Coef = vec(coef)
			out = append(out, p)
		}
	}
	for _, x := range []api.Num{long, "-" + long, "1/" + long, "-3/" + long} {
		cost, coef, right := prog("1 2", "3 4 <= 5"), prog("1 2", "3 4 <= 5"), prog("1 2", "3 4 <= 5")
		cost.Cost[1], coef.Rows[0].Coef[1], right.Rows[0].Right = x, x, x
		out = append(out, cost, coef, right)
	}
	return out
}

func TestInvalidPrograms(t *testing.T) {
	for _, p := range invalid() {
		expectErrors(t, p, api.ErrArg)
	}
}

// A Num that is not valid comes first, wherever it is, and whatever else is
// wrong with the program.
func TestInvalidNums(t *testing.T) {
	programs := append(invalid(), prog("1 2", "3 4 <= 5", "6 7 >= 8"), wide(api.MaxVars, api.MaxLimits, "1"))
	for _, bad := range []api.Num{"", "-0", "01", "2/4", "1/1", "1/0", "x", "1/-2", "+1", "0/3", "1/", "\xff", api.Num(digits(api.MaxDigits+1, "1")), api.Num("1/" + digits(api.MaxDigits+1, "3"))} {
		for _, p := range programs {
			for i := range p.Cost[:min(len(p.Cost), 2)] {
				wrong := copied(p)
				wrong.Cost[len(p.Cost)-1-i] = bad
				expectErrors(t, wrong, api.ErrForm)
			}
			for k := range p.Rows[:min(len(p.Rows), 2)] {
				wrong := copied(p)
				wrong.Rows[len(p.Rows)-1-k].Right = bad
				expectErrors(t, wrong, api.ErrForm)
				if n := len(p.Rows[k].Coef); n > 0 {
					wrong = copied(p)
					wrong.Rows[k].Coef[n-1] = bad
					expectErrors(t, wrong, api.ErrForm)
				}
			}
		}
	}
}

// R1: whatever the arguments are, there is a result in time.
func TestOddArguments(t *testing.T) {
	odd := []api.Num{"0", "1", "-1", "1/2", "99999999999999999999", "-0", "", "x", api.Num(digits(api.MaxDigits, "7")), "\xff\xfe", "//", "2/4"}
	r := rand.New(rand.NewSource(51))
	some := func(n int) []api.Num {
		out := make([]api.Num, r.Intn(n))
		for i := range out {
			out[i] = odd[r.Intn(len(odd)-r.Intn(8))]
		}
		return out
	}
	for range 20000 {
		p := api.Program{Cost: some(4)}
		for range r.Intn(3) {
			p.Rows = append(p.Rows, api.Row{Coef: some(4), Kind: r.Intn(6) - 1, Right: odd[r.Intn(8)]})
		}
		for _, c := range calls() {
			c.do(p)
		}
		a := api.Answer{Kind: r.Intn(6) - 1, X: some(4), Y: some(4), Ray: some(4), Value: odd[r.Intn(8)]}
		blend.Right(p, a)
		blend.Spread(p, r.Intn(6)-2)
		blend.Curve(p, r.Intn(6)-2, odd[r.Intn(8)], odd[r.Intn(8)])
	}
}

// R4: nil and empty slices are the same.
func TestNilAndEmpty(t *testing.T) {
	for _, pair := range [][2]api.Program{
		{{}, {Cost: []api.Num{}, Rows: []api.Row{}}},
		{{Cost: vec("1")}, {Cost: vec("1"), Rows: []api.Row{}}},
		{{Cost: vec("-1")}, {Cost: vec("-1"), Rows: []api.Row{}}},
		{{Rows: []api.Row{{Right: "1", Kind: 1}}}, {Cost: []api.Num{}, Rows: []api.Row{{Coef: []api.Num{}, Right: "1", Kind: 1}}}},
	} {
		for _, c := range calls() {
			x, e := c.do(pair[0])
			y, f := c.do(pair[1])
			if e != f || !reflect.DeepEqual(x, y) {
				t.Errorf("%s: %v, %d of nil and %v, %d of empty slices", c.name, x, e, y, f)
			}
		}
	}
	for _, empty := range [][]api.Num{nil, {}} {
		expectRight(t, prog("3"), api.Answer{Kind: api.Optimal, X: vec("0"), Value: "0", Y: empty, Ray: empty}, true)
		expectRight(t, prog("-3"), api.Answer{Kind: api.Unbounded, X: vec("0"), Y: empty, Ray: vec("1")}, true)
		expectRight(t, prog("1", "1 <= -1"), api.Answer{Kind: api.Infeasible, X: empty, Y: vec("-1"), Ray: empty}, true)
	}
}

// flat returns pointers to all elements of a result, up to its capacity.
func flat(x any) []*api.Num {
	var out []*api.Num
	switch v := x.(type) {
	case []api.Num:
		v = v[:cap(v)]
		for i := range v {
			out = append(out, &v[i])
		}
	case api.Answer:
		out = append(append(flat(v.X), flat(v.Y)...), flat(v.Ray)...)
	case api.Program:
		out = flat(v.Cost)
		for i := range v.Rows {
			out = append(append(out, flat(v.Rows[i].Coef)...), &v.Rows[i].Right)
		}
	case []api.Corner:
		v = v[:cap(v)]
		for i := range v {
			out = append(out, &v[i].At, &v[i].Value)
		}
	}
	return out
}

// R5 and R6: arguments stay as they are, results are new memory, and the same
// arguments have the same results, whatever was done with earlier ones.
func TestMemory(t *testing.T) {
	r := rand.New(rand.NewSource(52))
	for range 400 {
		p := someProgram(r, 1+r.Intn(4), r.Intn(5))
		for _, c := range calls() {
			given := copied(p)
			first, e := c.do(given)
			if !reflect.DeepEqual(given, copied(p)) {
				t.Fatalf("%s changes its argument", c.name)
			}
			seen := map[*api.Num]bool{}
			for _, x := range append([]any{given}, first...) {
				for _, at := range flat(x) {
					if seen[at] {
						t.Fatalf("%s: memory is shared", c.name)
					}
					seen[at] = true
				}
			}
			want, _ := c.do(copied(p))
			for _, x := range first {
				for _, at := range flat(x) {
					*at = "spoilt"
				}
			}
			again, f := c.do(given)
			if e != f || !reflect.DeepEqual(again, want) {
				t.Fatalf("%s: %v, %d, and then %v, %d", c.name, want, e, again, f)
			}
		}
		a := solve(t, p)
		given := api.Answer{Kind: a.Kind, X: slices.Clone(a.X), Value: a.Value, Y: slices.Clone(a.Y), Ray: slices.Clone(a.Ray)}
		blend.Right(p, given)
		if !reflect.DeepEqual(a, given) {
			t.Fatalf("Right changes its argument: %v, %v", a, given)
		}
	}
}

// R6: whatever the capacities are, and whatever is behind the elements.
func TestCapacities(t *testing.T) {
	r := rand.New(rand.NewSource(53))
	for range 300 {
		p := someProgram(r, 1+r.Intn(4), 1+r.Intn(4))
		roomy := copied(p)
		roomy.Cost = append(roomy.Cost, "x", "y")[:len(p.Cost)]
		for k := range roomy.Rows {
			roomy.Rows[k].Coef = append(roomy.Rows[k].Coef, "x", "y")[:len(p.Cost)]
		}
		roomy.Rows = append(roomy.Rows, api.Row{Kind: 99})[:len(p.Rows)]
		for _, c := range calls() {
			x, e := c.do(p)
			y, f := c.do(roomy)
			if e != f || !reflect.DeepEqual(x, y) {
				t.Fatalf("%s: %v, %d and %v, %d", c.name, x, e, y, f)
			}
		}
		if roomy.Cost[:cap(roomy.Cost)][len(p.Cost)] != "x" || roomy.Rows[:len(p.Rows)+1][len(p.Rows)].Kind != 99 {
			t.Fatal("what is behind an argument is changed")
		}
	}
}
