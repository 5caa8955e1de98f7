package whole_test

import (
	"math"
	"math/rand"
	"reflect"
	"slices"
	"strings"
	"testing"

	"cracknel/api"
	"cracknel/blend"
	"cracknel/whole"
)

// A call of a function with a whole program; it returns all results but the
// error.
type call struct {
	name string
	do   func(a task) ([]any, api.Errno)
}

func calls() []call {
	return []call{
		{"Solve", func(a task) ([]any, api.Errno) {
			x, cost, e := whole.Solve(a.p, a.low, a.high)
			return []any{x, cost}, e
		}},
		{"Prove", func(a task) ([]any, api.Errno) {
			proof, e := whole.Prove(a.p, a.low, a.high)
			return []any{proof}, e
		}},
		{"Shows", func(a task) ([]any, api.Errno) {
			shown, e := whole.Shows(a.p, a.low, a.high, "0", nodes("split 0 1, bound 1, bound 0"))
			return []any{shown}, e
		}},
		{"Count", func(a task) ([]any, api.Errno) {
			n, e := whole.Count(a.p, a.low, a.high)
			return []any{n}, e
		}},
	}
}

// R3: results beside an error are zero values; a slice may be empty.
func expectErrors(t *testing.T, a task, want api.Errno) {
	t.Helper()
	for _, c := range calls() {
		results, e := c.do(a)
		if e != want {
			t.Errorf("%s(%.300v): error %d, want %d", c.name, a, e, want)
		}
		for _, x := range results {
			if v := reflect.ValueOf(x); !v.IsZero() && (v.Kind() != reflect.Slice || v.Len() > 0) {
				t.Errorf("%s: %v beside an error", c.name, x)
			}
		}
	}
}

// ones returns a valid whole program in which all numbers are 1.
func ones(variables, rows int) task {
	a := task{api.Program{Cost: slices.Repeat(nums("1"), variables)}, slices.Repeat([]int{1}, variables), slices.Repeat([]int{1}, variables)}
	for range rows {
		a.p.Rows = append(a.p.Rows, api.Row{Coef: slices.Repeat(nums("1"), variables), Kind: api.AtLeast, Right: "1"})
	}
	return a
}

// invalid returns whole programs that are not valid, though their Nums are.
func invalid() []task {
	long := api.Num("1" + strings.Repeat("0", 40))
	out := []task{
		{}, ones(0, 1), ones(7, 0), ones(7, 3), ones(32, 0), ones(33, 2), ones(1, 49), ones(6, 49), ones(7, 49), ones(1000, 0),
		job("1/2", "0", "1"), job("3 -7/5", "0 0", "1 1"), job("1/2 1", "0 0", "0 0", "1 1 = 5"),
		// Boxes.
		job("1", "", ""), job("1", "0", ""), job("1", "", "5"), job("1", "0 0", "5"), job("1", "0", "5 5"), job("1", "0 0", "5 5"), job("1 1", "0", "5"),
		job("1", "-1", "5"), job("1", "6", "5"), job("1", "0", "-1"), job("1", "0", "1000001"), job("1", "1000001", "1000001"), job("1 2", "0 -3", "4 4"),
		job("1 2", "0 5", "4 4"), job("1 2", "0 5", "4 1000001"), {api.Program{Cost: nums("1")}, []int{math.MinInt}, []int{math.MaxInt}},
		{api.Program{Cost: nums("1")}, []int{math.MaxInt}, []int{math.MinInt}}, {api.Program{Cost: nums("1")}, []int{0}, []int{math.MaxInt}},
	}
	for _, kind := range []int{0, 4, -1, math.MaxInt, math.MinInt} {
		a := ones(2, 3)
		a.p.Rows[1].Kind = kind
		out = append(out, a)
	}
	for _, coef := range []string{"", "1", "1 1 1"} {
		a := ones(2, 3)
		a.p.Rows[2].Coef = nums(coef)
		out = append(out, a)
	}
	for _, x := range []api.Num{long, "-" + long, "1/" + long, long + "/3"} {
		cost, coef, right := ones(2, 2), ones(2, 2), ones(2, 2)
		cost.p.Cost[1], coef.p.Rows[1].Coef[0], right.p.Rows[0].Right = x, x, x
		out = append(out, cost, coef, right)
	}
	return out
}

func TestInvalid(t *testing.T) {
	for _, a := range invalid() {
		expectErrors(t, a, api.ErrArg)
	}
}

// A Num that is not valid comes first, wherever it is, and whatever else is
// wrong.
func TestInvalidNums(t *testing.T) {
	for _, a := range append(invalid(), ones(2, 2), ones(6, 48), job("1", "0", "1000000")) {
		for _, bad := range []api.Num{"", "-0", "01", "2/4", "1/1", "1/0", "x", "1 ", "+1", "\xff", api.Num(strings.Repeat("1", api.MaxDigits+1))} {
			for i := range a.p.Cost[:min(len(a.p.Cost), 2)] {
				wrong := a.copied()
				wrong.p.Cost[len(a.p.Cost)-1-i] = bad
				expectErrors(t, wrong, api.ErrForm)
			}
			for k := range a.p.Rows[:min(len(a.p.Rows), 2)] {
				wrong := a.copied()
				wrong.p.Rows[len(a.p.Rows)-1-k].Right = bad
				expectErrors(t, wrong, api.ErrForm)
				if n := len(a.p.Rows[k].Coef); n > 0 {
					wrong = a.copied()
					wrong.p.Rows[k].Coef[n-1] = bad
					expectErrors(t, wrong, api.ErrForm)
				}
			}
		}
	}
}

// The limits that the document names are allowed.
func TestLimits(t *testing.T) {
	nines := api.Num(strings.Repeat("9", 40))
	for _, a := range []task{
		ones(1, 0), ones(6, 0), ones(6, 48), job("1", "0", "0"), job("1", "1000000", "1000000"), job("1", "0", "1000000", "1 >= 1000000"),
		{api.Program{Cost: []api.Num{"-" + nines}, Rows: []api.Row{{Coef: []api.Num{"1/" + nines}, Kind: api.Equal, Right: "-" + nines}}}, []int{0}, []int{9}},
	} {
		if e := blend.Check(a.p); e != api.OK {
			t.Fatalf("Check(%v): error %d", a.p, e)
		}
		if _, _, e := whole.Solve(a.p, a.low, a.high); e != api.OK && e != api.ErrNone {
			t.Errorf("Solve(%v): error %d", a, e)
		}
		if _, e := whole.Prove(a.p, a.low, a.high); e != api.OK {
			t.Errorf("Prove(%v): error %d", a, e)
		}
	}
}

// R1: whatever the arguments are, there is a result in time.
func TestOddArguments(t *testing.T) {
	odd := []api.Num{"0", "1", "-1", "1/2", "99999999999999999999", "-0", "", "x", "\xff\xfe", "//"}
	numbers := []int{0, 1, 2, 5, -1, 1000000, 1000001, math.MaxInt, math.MinInt}
	r := rand.New(rand.NewSource(31))
	someNums := func(n int) []api.Num {
		out := make([]api.Num, r.Intn(n))
		for i := range out {
			out[i] = odd[r.Intn(len(odd)-r.Intn(9))]
		}
		return out
	}
	someInts := func(n int) []int {
		out := make([]int, r.Intn(n))
		for i := range out {
			out[i] = numbers[r.Intn(len(numbers)-r.Intn(8))]
		}
		return out
	}
	for range 20000 {
		a := task{api.Program{Cost: someNums(4)}, someInts(4), someInts(4)}
		for range r.Intn(3) {
			a.p.Rows = append(a.p.Rows, api.Row{Coef: someNums(4), Kind: between(r, -1, 4), Right: odd[r.Intn(6)]})
		}
		if hasRoom := !slices.Contains(a.high, 1000000); hasRoom {
			for _, c := range calls() {
				c.do(a)
			}
		}
		var proof []api.Node
		for range r.Intn(4) {
			n := api.Node{Kind: between(r, -1, 4), Y: someNums(4)}
			if r.Intn(3) == 0 {
				n.Var, n.At = numbers[r.Intn(9)], numbers[r.Intn(9)]
			}
			proof = append(proof, n)
		}
		whole.Shows(a.p, a.low, a.high, odd[r.Intn(10)], proof)
		whole.Bags(someInts(10), numbers[r.Intn(9)])
		whole.Apery(someInts(10))
		whole.Frobenius(someInts(10))
	}
}

// R4: nil and empty slices are the same.
func TestNilAndEmpty(t *testing.T) {
	for _, pair := range [][2]task{
		{{}, {api.Program{Cost: []api.Num{}, Rows: []api.Row{}}, []int{}, []int{}}},
		{{api.Program{Cost: nums("3")}, []int{1}, []int{4}}, {api.Program{Cost: nums("3"), Rows: []api.Row{}}, []int{1}, []int{4}}},
		{{api.Program{Cost: nums("3")}, nil, nil}, {api.Program{Cost: nums("3"), Rows: []api.Row{}}, []int{}, []int{}}},
	} {
		for _, c := range calls() {
			x, e := c.do(pair[0])
			y, f := c.do(pair[1])
			if e != f || !reflect.DeepEqual(x, y) {
				t.Errorf("%s: %v, %d of nil and %v, %d of empty slices", c.name, x, e, y, f)
			}
		}
	}
	for _, y := range [][]api.Num{nil, {}} {
		a := job("2", "1", "4")
		expectShows(t, a, "2", []api.Node{{Kind: api.Split, At: 3, Y: y}, {Kind: api.Bound, Y: y}, {Kind: api.Bound, Y: y}}, true)
	}
}

// R5: results are new memory; R6: the same arguments have the same results,
// whatever was done with earlier ones, and whatever is behind the elements.
func TestMemory(t *testing.T) {
	r := rand.New(rand.NewSource(32))
	for range 200 {
		a := someTask(r, between(r, 1, 3), r.Intn(4), 5)
		given := roomy(a)
		for _, c := range calls() {
			want, e := c.do(a.copied())
			got, f := c.do(given)
			if e != f || !reflect.DeepEqual(got, want) {
				t.Fatalf("%s(%v): %v, %d, and then %v, %d", c.name, a, want, e, got, f)
			}
			spoil(got)
			if again, _ := c.do(given); !reflect.DeepEqual(again, want) {
				t.Fatalf("%s(%v): %v, and then %v", c.name, a, want, again)
			}
		}
		if !reflect.DeepEqual(given, roomy(a)) || !reflect.DeepEqual(behind(given), behind(roomy(a))) {
			t.Fatalf("an argument is changed: %v", given)
		}
		proof, _ := whole.Prove(a.p, a.low, a.high)
		seen := map[*api.Num]bool{}
		for _, n := range proof {
			for i := range n.Y[:cap(n.Y)] {
				at := &n.Y[:cap(n.Y)][i]
				if seen[at] {
					t.Fatal("nodes share memory")
				}
				seen[at] = true
			}
		}
		checked := copiedNodes(proof)
		whole.Shows(a.p, a.low, a.high, "0", checked)
		if !reflect.DeepEqual(checked, copiedNodes(proof)) {
			t.Fatalf("Shows changes a proof: %v", checked)
		}
	}
	sizes := []int{3, 5, 7, 99}[:3]
	first, _ := whole.Bags(sizes, 20)
	totals, _ := whole.Apery(sizes)
	first[0], totals[1] = 77, 77
	second, _ := whole.Bags(sizes, 20)
	again, _ := whole.Apery(sizes)
	if !slices.Equal(sizes[:4], []int{3, 5, 7, 99}) || !slices.Equal(second, []int{0, 4, 0}) || !slices.Equal(again, []int{0, 7, 5}) {
		t.Errorf("%v, %v, %v", sizes[:4], second, again)
	}
}

// roomy returns a task whose slices have room, with something in it.
func roomy(a task) task {
	out := a.copied()
	out.p.Cost = append(out.p.Cost, "x")[:len(a.p.Cost)]
	for k := range out.p.Rows {
		out.p.Rows[k].Coef = append(out.p.Rows[k].Coef, "x")[:len(a.p.Cost)]
	}
	out.p.Rows = append(out.p.Rows, api.Row{Kind: 99})[:len(a.p.Rows)]
	out.low, out.high = append(out.low, -9)[:len(a.low)], append(out.high, -9)[:len(a.high)]
	return out
}

// behind returns what is in the room of a roomy task.
func behind(a task) []any {
	n := len(a.low)
	return []any{a.p.Cost[: n+1 : n+1][n], a.p.Rows[:len(a.p.Rows)+1][len(a.p.Rows)].Kind, a.low[:n+1][n], a.high[:n+1][n]}
}

func spoil(results []any) {
	for _, x := range results {
		switch v := x.(type) {
		case []int:
			for i := range v[:cap(v)] {
				v[:cap(v)][i] = -77
			}
		case []api.Node:
			for i := range v {
				for j := range v[i].Y {
					v[i].Y[j] = "spoilt"
				}
				v[i] = api.Node{Kind: 77}
			}
		}
	}
}
