package shop_test

import (
	"math/rand"
	"reflect"
	"slices"
	"testing"

	"cracknel/api"
	"cracknel/shop"
)

// A given is what all functions are called with.
type given struct {
	table        grid
	release, due []int
	schedule     plan
	shares       []share
	plans        plans
}

func (g given) copied() given {
	out := given{table: copied(g.table), release: slices.Clone(g.release), due: slices.Clone(g.due)}
	for _, s := range g.schedule {
		out.schedule = append(out.schedule, shift{Length: s.Length, Jobs: slices.Clone(s.Jobs)})
	}
	for _, s := range g.shares {
		out.shares = append(out.shares, share{Count: s.Count, To: slices.Clone(s.To)})
	}
	for _, p := range g.plans {
		out.plans = append(out.plans, given{schedule: p}.copied().schedule)
	}
	return out
}

// A call is a function of the package, with its results as one value.
type call struct {
	name string
	do   func(g given) (any, api.Errno)
}

// forTables returns the functions of tables, and forSquares those of square ones.
func forTables() []call {
	return []call{
		{"Bound", func(g given) (any, api.Errno) {
			load, kind, at, e := shop.Bound(g.table)
			return [3]int{load, kind, at}, e
		}},
		{"Plan", func(g given) (any, api.Errno) {
			p, e := shop.Plan(g.table)
			return p, e
		}},
		{"Does", func(g given) (any, api.Errno) {
			length, e := shop.Does(g.table, g.schedule)
			return length, e
		}},
	}
}

func forSquares() []call {
	return []call{
		{"Shares", func(g given) (any, api.Errno) {
			shares, e := shop.Shares(g.table)
			return shares, e
		}},
		{"Makes", func(g given) (any, api.Errno) {
			ok, e := shop.Makes(g.table, g.shares)
			return ok, e
		}},
	}
}

func forWindows() []call {
	return []call{
		{"Windows", func(g given) (any, api.Errno) {
			p, e := shop.Windows(g.table, g.release, g.due)
			return p, e
		}},
		{"Fits", func(g given) (any, api.Errno) {
			ok, e := shop.Fits(g.table, g.release, g.due, g.plans)
			return ok, e
		}},
		{"Program", func(g given) (any, api.Errno) {
			p, e := shop.Program(g.table, g.release, g.due)
			return p, e
		}},
		{"Refuse", func(g given) (any, api.Errno) {
			y, e := shop.Refuse(g.table, g.release, g.due)
			return y, e
		}},
	}
}

func calls() []call { return slices.Concat(forTables(), forSquares(), forWindows()) }

func example() given {
	return given{times("2 1, 1 2"), ints("0 1"), ints("4 5"), shifts("2 0 1, 1 1 0"), permutations("2 0 1, 1 1 0"), intervals("; 2 0 1, 1 1 0;")}
}

func expectInvalid(t *testing.T, g given, calls []call) {
	t.Helper()
	for _, c := range calls {
		result, e := c.do(g)
		if e != api.ErrArg || !isZeroOf(result) {
			t.Errorf("%s of %s = %s, error %d", c.name, brief(g), brief(result), e)
		}
	}
}

func isZeroOf(result any) bool {
	return result == [3]int{} || isZero(result)
}

func TestInvalidTables(t *testing.T) {
	for _, c := range calls() {
		if result, e := c.do(example()); e != api.OK && c.name != "Refuse" {
			t.Errorf("%s: %v, error %d", c.name, result, e)
		}
	}
	for _, table := range []grid{
		nil, {}, {nil}, {{}}, {nil, nil}, {{1, 1}, {}}, {{}, {1, 1}}, {{1, 1}, {1}}, {{1}, {1, 1}}, {{1, 1}, nil},
		filled(9, 1, 1), filled(1, 9, 1), filled(9, 9, 1), filled(8, 9, 0), filled(9, 8, 0), filled(2, 100000, 1), filled(100000, 2, 1),
		times("-1 1, 1 1"), times("1 1, 1 -1"), times("1001 1, 1 1"), times("1 1, 1 1001"), append(filled(7, 8, 1), slices.Repeat([]int{1}, 9)),
	} {
		g := example()
		g.table = table
		expectInvalid(t, g, calls())
		g.release, g.due = make([]int, len(table)), slices.Repeat([]int{9}, len(table))
		expectInvalid(t, g, calls())
	}
	for _, time := range odd() {
		g := example()
		g.table[1][0] = time
		expectInvalid(t, g, calls())
	}
	g := example()
	g.table = filled(8, 8, api.MaxWork)
	g.release, g.due = make([]int, 8), slices.Repeat([]int{8000}, 8)
	for _, c := range calls() {
		if _, e := c.do(g); e == api.ErrArg {
			t.Errorf("%s refuses the greatest table", c.name)
		}
	}
}

func TestInvalidWindows(t *testing.T) {
	for _, c := range []struct{ release, due string }{
		{"", ""}, {"0", "5"}, {"0 0", "5"}, {"0", "5 5"}, {"0 0 0", "5 5 5"}, {"0 0 0", "5 5"}, {"0 0", "5 5 5"}, {"", "5 5"}, {"0 0", ""},
		{"0 5", "5 5"}, {"5 0", "5 5"}, {"0 6", "5 5"}, {"0 0", "5 0"}, {"0 0", "0 5"}, {"-1 0", "5 5"}, {"0 -1", "5 5"}, {"0 0", "5 10001"}, {"0 0", "10001 5"},
		{"10000 0", "10000 5"}, {"10000 0", "10001 5"}, {"-2 0", "-1 5"}, {"0 9", "5 8"},
	} {
		g := example()
		g.release, g.due = ints(c.release), ints(c.due)
		expectInvalid(t, g, forWindows())
	}
	for _, time := range odd() {
		for _, at := range []int{0, 1} {
			g := example()
			g.release[at] = time
			expectInvalid(t, g, forWindows())
			g = example()
			g.due[at] = time
			expectInvalid(t, g, forWindows())
		}
	}
	g := example()
	g.release, g.due = ints("0 9999"), ints("1 10000")
	for _, c := range forWindows() {
		if _, e := c.do(g); e == api.ErrArg {
			t.Errorf("%s refuses the greatest windows", c.name)
		}
	}
}

// R2: ErrArg comes before ErrForm, ErrNone and ErrLong; ErrNone of no work before
// ErrLong, and that before ErrNone of a plan.
func TestOrderOfErrors(t *testing.T) {
	wrong := shifts("x 5")
	expectDoesError(t, times("1001"), wrong, api.ErrArg)
	expectDoesError(t, nil, wrong, api.ErrArg)
	expectDoesError(t, times("1"), wrong, api.ErrForm)
	expectProgramError(t, filled(8, 8, 0), make([]int, 8), ints("1 2 3 4 5 6 7 8"), api.ErrNone)
	expectProgramError(t, filled(8, 8, 0), make([]int, 8), ints("1 2 3 4 5 6 7 0"), api.ErrArg)
	expectProgramError(t, filled(8, 8, 1), make([]int, 8), ints("1 2 3 4 5 6 7 0"), api.ErrArg)
	expectProgramError(t, filled(8, 8, 1), make([]int, 8), slices.Repeat([]int{8}, 8), api.ErrLong)
	expectProgramError(t, filled(8, 8, 1), make([]int, 8), slices.Repeat([]int{7}, 8), api.ErrLong)
	expectNoWindows(t, filled(8, 8, 1), make([]int, 8), slices.Repeat([]int{7}, 8))
	y, e := shop.Refuse(filled(4, 8, 1), make([]int, 4), slices.Repeat([]int{8}, 4))
	expectError(t, "Refuse", y, e, api.ErrNone)
	ok, e := shop.Makes(times("2 1, 1 1"), permutations("0 5"))
	expectError(t, "Makes", ok, e, api.ErrArg)
	ok, e = shop.Fits(times("1"), ints("5"), ints("5"), plans{wrong})
	expectError(t, "Fits", ok, e, api.ErrArg)
}

// R1: whatever the arguments are, all functions return, and R3 holds.
func TestOddArguments(t *testing.T) {
	r := rand.New(rand.NewSource(12))
	wild := func(low, high int) int {
		if r.Intn(60) == 0 {
			return append(odd(), -1, 8, 9, 1000, 10000)[r.Intn(len(odd())+5)]
		}
		return between(r, low, high)
	}
	list := func(low, high int) []int {
		out := make([]int, wild(1, 3)&7)
		for i := range out {
			out[i] = wild(low, high)
		}
		return out
	}
	schedule := func() plan {
		var out plan
		for range r.Intn(4) {
			length := nums{"1", "2", "1/2", "3", "0", "-1", "x", ""}[r.Intn(8)]
			out = append(out, shift{Length: length, Jobs: list(-1, 2)})
		}
		return out
	}
	good := 0
	for range 20000 {
		var g given
		for range wild(1, 3) & 15 {
			g.table = append(g.table, list(0, 3))
		}
		if len(g.table) > 0 && r.Intn(4) > 0 {
			g.table = someTable(r, between(r, 1, 3), between(r, 1, 3), 2, 3)
		}
		g.release, g.due = list(0, 3), list(2, 7)
		g.schedule = schedule()
		for range r.Intn(4) {
			g.shares = append(g.shares, share{Count: wild(0, 3), To: list(0, 2)})
			g.plans = append(g.plans, schedule())
		}
		for _, c := range calls() {
			result, e := c.do(g)
			if e == api.OK {
				good++
			} else if !isZeroOf(result) {
				t.Errorf("%s of %s = %s, error %d", c.name, brief(g), brief(result), e)
			}
		}
	}
	if good < 20000 {
		t.Errorf("%d calls without an error", good)
	}
}

// R4: a nil slice and an empty one are the same.
func TestNilAndEmpty(t *testing.T) {
	for _, table := range []grid{nil, times("0"), filled(2, 2, 0)} {
		full := given{table, make([]int, len(table)), slices.Repeat([]int{1}, len(table)), plan{}, []share{}, plans{{}}}
		bare := full
		bare.schedule, bare.shares, bare.plans = nil, nil, plans{nil}
		for _, c := range calls() {
			a, e := c.do(full)
			b, f := c.do(bare)
			if e != f || !reflect.DeepEqual(a, b) {
				t.Errorf("%s: %v, %v, errors %d, %d", c.name, a, b, e, f)
			}
		}
	}
	expectDoes(t, times("0"), nil, "0")
	expectDoes(t, times("0"), plan{}, "0")
	expectMakes(t, times("0"), nil, true)
	expectFits(t, times("0"), ints("0"), ints("1"), plans{{}}, true)
	expectFits(t, times("0"), ints("0"), ints("1"), plans{}, false)
	expectFits(t, times("0"), ints("0"), ints("1"), nil, false)
	expectInvalid(t, given{table: grid{nil}}, calls())
	expectInvalid(t, given{table: times("1"), release: []int{}, due: []int{}}, forWindows())
}

// spoil overwrites what a result has, up to the capacity of its slices, one slice
// after the other, and reports whether each slice was as it had been until then:
// then no two of them share memory.
func spoil(result any) bool {
	isOwn := true
	numbers := func(l []int) {
		isOwn = isOwn && !slices.Contains(l, -77)
		for i := range l[:cap(l)] {
			l[:cap(l)][i] = -77
		}
	}
	texts := func(l nums) {
		isOwn = isOwn && !slices.Contains(l, "?")
		for i := range l[:cap(l)] {
			l[:cap(l)][i] = "?"
		}
	}
	switch x := result.(type) {
	case plan:
		for _, s := range x {
			numbers(s.Jobs)
		}
		for i := range x[:cap(x)] {
			isOwn = isOwn && x[:cap(x)][i].Length != "?"
			x[:cap(x)][i] = shift{Length: "?"}
		}
	case plans:
		for _, p := range x {
			isOwn = spoil(p) && isOwn
		}
	case []share:
		for _, s := range x {
			numbers(s.To)
		}
	case nums:
		texts(x)
	case api.Program:
		texts(x.Cost)
		for _, row := range x.Rows {
			texts(row.Coef)
		}
	}
	return isOwn
}

// R5 and P6: arguments stay as they are, and results share no memory with them or
// with one another.
func TestMemory(t *testing.T) {
	r := rand.New(rand.NewSource(13))
	for range 200 {
		g := example()
		g.table = someBalanced(r, 2, 4, 2)
		if r.Intn(3) == 0 {
			g.table[1] = ints("9 0")
		}
		kept := g.copied()
		var first []any
		for round := range 3 {
			for i, c := range calls() {
				result, e := c.do(g)
				text := brief(result)
				if round == 0 {
					first = append(first, text)
				}
				if first[i] != text {
					t.Fatalf("%s of %v: %v, and then %v", c.name, g, first[i], text)
				}
				if e == api.OK && !spoil(result) {
					t.Fatalf("%s of %v: slices share memory", c.name, g)
				}
				if !reflect.DeepEqual(g, kept) {
					t.Fatalf("%s has changed %v", c.name, kept)
				}
			}
		}
	}
}

// R6: the same arguments have the same results, whatever was called before.
func TestRepeatable(t *testing.T) {
	r := rand.New(rand.NewSource(14))
	var all []given
	var results [][]any
	for range 60 {
		g := given{table: someBalanced(r, between(r, 1, 8), 5, 2)}
		g.release, g.due = someWindows(r, len(g.table), 40)
		g.schedule, _ = shop.Plan(g.table)
		g.shares, _ = shop.Shares(g.table)
		g.plans, _ = shop.Windows(g.table, g.release, g.due)
		all = append(all, g)
	}
	for round := range 3 {
		for i, g := range all {
			var got []any
			for _, c := range calls() {
				result, e := c.do(g.copied())
				got = append(got, result, e)
			}
			if round == 0 {
				results = append(results, got)
			} else if !reflect.DeepEqual(got, results[i]) {
				t.Errorf("%v: %v, and then %v", g, results[i], got)
			}
		}
	}
}
