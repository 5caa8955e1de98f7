package line_test

import (
	"math"
	"math/rand"
	"reflect"
	"slices"
	"testing"

	"cracknel/api"
	"cracknel/line"
)

// A call of a function with a graph and a state, if it has one; it returns its
// results beside the error.
type call struct {
	name  string
	state bool
	do    func(n int, as arcs, x []int) ([]any, api.Errno)
}

func calls() []call {
	potentials := func(m api.Num) call {
		return call{"Potentials", false, func(n int, as arcs, _ []int) ([]any, api.Errno) {
			y, e := line.Potentials(n, as, m)
			return []any{y}, e
		}}
	}
	run := func(steps int) call {
		return call{"Run", true, func(n int, as arcs, x []int) ([]any, api.Errno) {
			y, e := line.Run(n, as, x, steps)
			return []any{y}, e
		}}
	}
	return []call{
		{"Mean", false, func(n int, as arcs, _ []int) ([]any, api.Errno) {
			m, cycle, e := line.Mean(n, as)
			return []any{m, cycle}, e
		}},
		{"Critical", false, func(n int, as arcs, _ []int) ([]any, api.Errno) {
			l, e := line.Critical(n, as)
			return []any{l}, e
		}},
		{"Cyclicity", false, func(n int, as arcs, _ []int) ([]any, api.Errno) {
			c, e := line.Cyclicity(n, as)
			return []any{c}, e
		}},
		{"Regime", true, func(n int, as arcs, x []int) ([]any, api.Errno) {
			s, p, gain, e := line.Regime(n, as, x)
			return []any{s, p, gain}, e
		}},
		potentials("1"), potentials("-1"), potentials("1/2"), potentials("x"), potentials(""), run(0), run(1), run(mostSteps), run(-1), run(mostSteps + 1),
	}
}

// expectError checks R3: results beside an error are zero; a slice may be empty.
func expectError(t *testing.T, name string, result any, got, want api.Errno) {
	t.Helper()
	if got != want {
		t.Errorf("%s: error %d, want %d", name, got, want)
	}
	if got == api.OK {
		return
	}
	parts, ok := result.([]any)
	if ints, isInts := result.([]int); isInts {
		for _, x := range ints {
			parts = append(parts, x)
		}
	} else if !ok {
		parts = []any{result}
	}
	for _, part := range parts {
		if v := reflect.ValueOf(part); !v.IsZero() && (v.Kind() != reflect.Slice || v.Len() > 0) {
			t.Errorf("%s: %v beside an error", name, result)
		}
	}
}

// expectErrArg expects ErrArg of all functions of graphs, or of those of states.
func expectErrArg(t *testing.T, n int, as arcs, x []int, onlyStates bool) {
	t.Helper()
	for _, c := range calls() {
		if c.state || !onlyStates {
			result, e := c.do(n, as, x)
			expectError(t, c.name, result, e, api.ErrArg)
		}
	}
}

// odd returns numbers that are no nodes, and no numbers of nodes.
func odd() []int {
	return []int{-1, 17, 18, 64, 100, -16, math.MaxInt, math.MinInt, math.MinInt + 1, math.MaxInt32, 1 << 16, 1 << 32, 1 << 62}
}

// ErrArg comes before all that is wrong beside it.
func TestInvalidGraphs(t *testing.T) {
	live := graph("0 0 1")
	for _, n := range append(odd(), 0) {
		expectErrArg(t, n, nil, nil, false)
		expectErrArg(t, n, live, []int{0}, false)
		expectErrArg(t, n, live, make([]int, 17), false)
		if n == 0 {
			continue
		}
		for size := 1; size <= 16; size += 5 {
			expectErrArg(t, size, arcs{{From: n}}, make([]int, size), false)
			expectErrArg(t, size, arcs{{To: n}}, make([]int, size), false)
			expectErrArg(t, size, append(graph("0 0 1"), arc{From: n, To: n}), make([]int, size), false)
			expectErrArg(t, size, append(arcs{{From: n}}, live...), nil, false)
		}
	}
	for size := 1; size <= 16; size++ {
		expectErrArg(t, size, arcs{{From: size}}, make([]int, size), false)
		expectErrArg(t, size, arcs{{To: size}}, make([]int, size), false)
	}
	for _, time := range []int{api.MaxTime + 1, -api.MaxTime - 1, math.MaxInt, math.MinInt, 1 << 32} {
		expectErrArg(t, 1, arcs{{Time: time}}, []int{0}, false)
		expectErrArg(t, 2, append(graph("0 1 0, 1 0 0"), arc{From: 1, To: 1, Time: time}), []int{0, 0}, false)
	}
	expectErrArg(t, 1, make(arcs, api.MaxArcs+1), []int{0}, false)
	expectErrArg(t, 16, make(arcs, 100000), make([]int, 16), false)
	expectErrArg(t, 1, append(make(arcs, api.MaxArcs), arc{From: 5}), []int{0}, false)
}

// The limits of graphs are allowed.
func TestLimits(t *testing.T) {
	expectMean(t, 1, make(arcs, api.MaxArcs), ratio(0, 1))
	expectMean(t, 16, make(arcs, api.MaxArcs), ratio(0, 1))
	expectMean(t, 16, graph("15 15 1000000, 0 0 -1000000"), ratio(api.MaxTime, 1))
	expectMean(t, 16, graph("0 0 -1000000"), ratio(-api.MaxTime, 1))
	expectRun(t, 1, make(arcs, api.MaxArcs), []int{farthest}, mostSteps, []int{farthest})
	expectRegime(t, 1, make(arcs, api.MaxArcs), []int{-farthest}, 0, 1, 0)
	expectRegime(t, 16, ring(0, 16, 0), make([]int, 16), 0, 1, 0)
	expectPlant(t, make([]int, 8), make(loops, 0), 0, nil)
}

// States of too few or too many elements, and with elements that are too far
// away, whether the graph is live or not.
func TestInvalidStates(t *testing.T) {
	for _, as := range []arcs{nil, graph("0 1 0"), graph("0 1 1, 1 0 1"), graph("0 0 1, 0 1 1")} {
		for _, count := range []int{0, 1, 3, 15, 16, 17, 100000} {
			expectErrArg(t, 2, as, make([]int, count), true)
		}
		for _, x := range []int{farthest + 1, -farthest - 1, math.MaxInt, math.MinInt, math.MinInt + 1, 1 << 62} {
			expectErrArg(t, 2, as, []int{x, 0}, true)
			expectErrArg(t, 2, as, []int{0, x}, true)
			expectErrArg(t, 2, as, []int{x, x}, true)
		}
	}
	as := graph("0 1 1, 1 0 1")
	expectRun(t, 2, as, []int{farthest, -farthest}, 2, []int{farthest + 2, -farthest + 2})
	expectRegime(t, 2, as, []int{farthest, -farthest}, 0, 2, 2)
}

func expectRunError(t *testing.T, n int, as arcs, steps int, want api.Errno) {
	t.Helper()
	x, e := line.Run(n, as, make([]int, n), steps)
	expectError(t, "Run", x, e, want)
}

func expectRegimeError(t *testing.T, n int, as arcs, want api.Errno) {
	t.Helper()
	s, p, gain, e := line.Regime(n, as, make([]int, n))
	expectError(t, "Regime", []int{s, p, gain}, e, want)
}

// The number of steps is looked at before whether the graph is live.
func TestErrorsOfRun(t *testing.T) {
	for _, steps := range []int{-1, mostSteps + 1, math.MaxInt, math.MinInt, -mostSteps} {
		expectRunError(t, 2, graph("0 1 1, 1 0 1"), steps, api.ErrArg)
		expectRunError(t, 2, nil, steps, api.ErrArg)
	}
	for _, steps := range []int{0, 1, 2, mostSteps} {
		expectRunError(t, 1, nil, steps, api.ErrForm)
		expectRunError(t, 2, graph("0 1 1"), steps, api.ErrForm)
		expectRunError(t, 2, graph("0 1 1, 1 1 1"), steps, api.ErrForm)
		expectRunError(t, 2, graph("0 0 1"), steps, api.ErrForm)
		expectRunError(t, 16, ring(0, 15, 1), steps, api.ErrForm)
		expectRunError(t, 16, ring(1, 15, 1), steps, api.ErrForm)
		expectRunError(t, 2, graph("0 1 1, 1 0 1"), steps, api.OK)
		expectRunError(t, 2, graph("0 0 1, 0 1 1"), steps, api.OK)
		expectRunError(t, 2, graph("0 0 1, 1 1 1"), steps, api.OK)
	}
}

// A graph that is live and not strongly connected has no regime, and neither has
// one that is not live.
func TestErrorsOfRegime(t *testing.T) {
	for _, x := range []struct {
		n    int
		arcs string
	}{
		{1, ""}, {2, ""}, {2, "0 1 1"}, {2, "0 0 1, 1 1 1"}, {2, "0 0 1, 0 1 1"}, {2, "0 0 1, 1 0 1"}, {2, "0 0 1, 0 1 1, 1 1 1"}, {2, "1 0 1, 1 1 1, 0 0 1"},
		{3, "0 1 1, 1 0 1, 1 2 1, 2 2 1"}, {3, "0 1 1, 1 0 1, 2 0 1, 2 2 1"}, {4, "0 1 1, 1 0 1, 2 3 1, 3 2 1"}, {4, "0 1 1, 1 0 1, 2 3 1, 3 2 1, 0 2 1, 1 3 1"},
	} {
		expectRegimeError(t, x.n, graph(x.arcs), api.ErrForm)
	}
	// Not strongly connected comes before too long.
	s, p, gain, e := line.Regime(3, graph("0 0 1, 1 1 0, 0 1 0, 1 0 -1000000, 0 2 1"), []int{0, farthest, 0})
	expectError(t, "Regime", []int{s, p, gain}, e, api.ErrForm)
	expectRegimeError(t, 16, append(ring(0, 15, 1), arc{From: 15, To: 15}, arc{From: 3, To: 15}), api.ErrForm)
	expectRegimeError(t, 16, ring(0, 16, 1), api.OK)
	expectRegimeError(t, 1, graph("0 0 0"), api.OK)
	expectRegimeError(t, 3, graph("0 1 1, 1 0 1, 1 2 1, 2 0 1"), api.OK)
}

// ErrForm of Potentials comes before ErrNone.
func TestErrorsOfPotentials(t *testing.T) {
	for _, x := range []struct {
		m    api.Num
		want api.Errno
	}{{"0", api.ErrNone}, {"x", api.ErrForm}, {"-0", api.ErrForm}, {"1", api.OK}} {
		y, e := line.Potentials(1, graph("0 0 1"), x.m)
		expectError(t, "Potentials", y, e, x.want)
	}
}

func expectPlantError(t *testing.T, times []int, ls loops) {
	t.Helper()
	for _, items := range []int{0, 1, api.MaxItems, -1, api.MaxItems + 1} {
		out, e := line.Plant(times, ls, items)
		expectError(t, "Plant", out, e, api.ErrArg)
	}
	rate, e := line.Rate(times, ls)
	expectError(t, "Rate", rate, e, api.ErrArg)
}

func TestInvalidPlants(t *testing.T) {
	good := []int{2, 3, 1}
	for _, times := range [][]int{nil, {}, make([]int, 9), make([]int, 100000), {-1}, {1, 2, -1}, {api.MaxTime + 1}, {1, api.MaxTime + 1, 1}, {math.MinInt}, {math.MaxInt}, {1, 2, 3, 4, 5, 6, 7, -8}} {
		expectPlantError(t, times, nil)
		expectPlantError(t, times, rings("0 0 1"))
	}
	for _, text := range []string{"1 0 1", "2 1 1", "2 0 5", "-1 0 1", "-1 -1 1", "0 3 1", "3 3 1", "0 -1 1", "0 0 0", "0 1 0", "0 1 -1", "0 1 101", "0 2 1000000", "0 1 1, 2 1 1", "0 1 1, 0 2 0"} {
		expectPlantError(t, good, rings(text))
	}
	for _, n := range odd() {
		expectPlantError(t, good, loops{{From: n, To: n, Trays: 1}})
		expectPlantError(t, good, loops{{From: 0, To: n, Trays: 1}})
		expectPlantError(t, good, loops{{From: n, To: 2, Trays: 1}})
		if n < 1 || n > 100 {
			expectPlantError(t, good, loops{{From: 0, To: 2, Trays: n}})
		}
	}
	expectPlantError(t, good, slices.Repeat(rings("0 1 1"), 9))
	expectPlantError(t, good, slices.Repeat(rings("0 1 1"), 100000))
	expectPlantError(t, make([]int, 8), slices.Repeat(rings("0 8 1"), 1))
	for _, items := range []int{-1, api.MaxItems + 1, math.MaxInt, math.MinInt, 1 << 32} {
		out, e := line.Plant(good, nil, items)
		expectError(t, "Plant", out, e, api.ErrArg)
	}
}

// R1: whatever the arguments are, all functions return, and R3 holds.
func TestOddArguments(t *testing.T) {
	r := rand.New(rand.NewSource(18))
	wild := func(low, high int) int {
		if r.Intn(40) == 0 {
			return append(odd(), 0, farthest, -farthest, api.MaxTime)[r.Intn(17)]
		}
		return between(r, low, high)
	}
	good := 0
	for range 20000 {
		n := wild(1, 4)
		as := make(arcs, r.Intn(8))
		for i := range as {
			as[i] = arc{From: wild(0, 3), To: wild(0, 3), Time: wild(-5, 5)}
		}
		x := make([]int, wild(1, 4)&7)
		for i := range x {
			x[i] = wild(-9, 9)
		}
		for _, c := range calls() {
			result, e := c.do(n, as, x)
			expectError(t, c.name, result, e, e)
			if e == api.OK {
				good++
			}
		}
		ls := make(loops, r.Intn(4))
		for i := range ls {
			ls[i] = loop{From: wild(0, 2), To: wild(1, 3), Trays: wild(1, 3)}
		}
		out, e := line.Plant(x, ls, wild(0, 9))
		expectError(t, "Plant", out, e, e)
		rate, e := line.Rate(x, ls)
		expectError(t, "Rate", rate, e, e)
	}
	if good < 10000 {
		t.Errorf("%d calls without an error", good)
	}
}

// R4: a nil slice and an empty one are the same.
func TestNilAndEmpty(t *testing.T) {
	for _, n := range []int{0, 1, 2} {
		for _, c := range calls() {
			a, e := c.do(n, nil, nil)
			b, f := c.do(n, arcs{}, []int{})
			if e != f || !reflect.DeepEqual(a, b) {
				t.Errorf("%s: %v, %v, errors %d, %d", c.name, a, b, e, f)
			}
		}
	}
	expectPlant(t, []int{1, 2}, nil, 2, []int{3, 5})
	expectPlant(t, []int{1, 2}, loops{}, 2, []int{3, 5})
	expectRate(t, []int{1, 2}, loops{}, ratio(2, 1))
}

// R5 and P6: arguments stay as they are, and results share no memory with them or
// with one another.
func TestMemory(t *testing.T) {
	as := graph("0 1 3, 1 0 2, 0 0 2")
	x, times, ls := []int{0, 7}, []int{2, 3, 1}, rings("0 1 1")
	whole := append(slices.Clone(as), as...)
	for range 3 {
		for _, c := range calls() {
			result, _ := c.do(2, whole[:3], x[:2:2])
			for _, part := range result {
				spoil(part)
			}
		}
		out, _ := line.Plant(times, ls, 5)
		spoil(out)
		if _, e := line.Rate(times, ls); e != api.OK {
			t.Error(e)
		}
		if !slices.Equal(whole, append(slices.Clone(as), as...)) || !slices.Equal(x, []int{0, 7}) || !slices.Equal(times, []int{2, 3, 1}) || !slices.Equal(ls, rings("0 1 1")) {
			t.Fatalf("%v, %v, %v, %v", whole, x, times, ls)
		}
	}
	expectRun(t, 2, as, x, 0, []int{0, 7})
	expectMean(t, 2, as, ratio(5, 2))
	expectPlant(t, times, ls, 3, []int{6, 11, 16})
	y, _ := line.Run(2, as, x, 0)
	y[0] = 99
	if x[0] != 0 {
		t.Error("Run returns its argument")
	}
}

// spoil overwrites what a slice has, up to its capacity.
func spoil(result any) {
	switch l := result.(type) {
	case []int:
		for i := range l[:cap(l)] {
			l[:cap(l)][i] = -77
		}
	case []api.Num:
		for i := range l[:cap(l)] {
			l[:cap(l)][i] = "?"
		}
	}
}

// R6: the same arguments have the same results, whatever was called before.
func TestRepeatable(t *testing.T) {
	r := rand.New(rand.NewSource(19))
	type kept struct {
		n  int
		as arcs
		x  []int
	}
	var all []kept
	var results [][]any
	for range 60 {
		n := between(r, 1, 16)
		all = append(all, kept{n, someConnected(r, n, r.Intn(40), 2), someState(r, n, 9)})
	}
	for round := range 3 {
		for i, k := range all {
			var got []any
			for _, c := range calls() {
				result, e := c.do(k.n, slices.Clone(k.as), slices.Clone(k.x))
				got = append(got, result, e)
			}
			if round == 0 {
				results = append(results, got)
			} else if !reflect.DeepEqual(got, results[i]) {
				t.Errorf("%v: %v, and then %v", k, results[i], got)
			}
		}
	}
}
