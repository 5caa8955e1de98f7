package line_test

import (
	"math/rand"
	"slices"
	"testing"

	"cracknel/api"
	"cracknel/line"
)

func TestMeanByHand(t *testing.T) {
	example := graph("0 1 3, 1 0 2, 0 0 2")
	expectMean(t, 2, example, ratio(5, 2))
	expectCritical(t, 2, example, []int{0, 1})
	expectCyclicity(t, 2, example, 2)
	for _, x := range []struct {
		n          int
		arcs       string
		num, den   int
		critical   []int
		cyclicity  int
		whatItDoes string
	}{
		{1, "0 0 7", 7, 1, []int{0}, 1, "a node with an arc to itself"},
		{1, "0 0 -7", -7, 1, []int{0}, 1, "a mean below 0"},
		{1, "0 0 0", 0, 1, []int{0}, 1, "a mean of 0"},
		{1, "0 0 1, 0 0 3, 0 0 3, 0 0 2", 3, 1, []int{1, 2}, 1, "several arcs from a node to itself"},
		{2, "0 1 5, 0 1 6, 1 0 1, 0 1 6, 1 0 0", 7, 2, []int{1, 2, 3}, 2, "several arcs between the same nodes"},
		{3, "0 1 9, 1 2 9, 0 2 9, 2 2 -4", -4, 1, []int{3}, 1, "great times that are in no cycle"},
		{2, "0 0 1, 0 1 9, 1 1 1", 1, 1, []int{0, 2}, 1, "an arc between two components"},
		{4, "0 1 1, 1 0 1, 1 2 5, 2 3 1, 3 2 1", 1, 1, []int{0, 1, 3, 4}, 2, "an arc between two cycles"},
		{4, "0 1 1, 1 0 1, 1 2 -9, 2 3 1, 3 2 1, 3 0 11", 1, 1, []int{0, 1, 2, 3, 4, 5}, 2, "cycles of 2 and of 4"},
		{5, "0 1 1, 1 0 1, 2 3 1, 3 4 1, 4 2 1", 1, 1, []int{0, 1, 2, 3, 4}, 6, "components of cycles of 2 and of 3"},
		{5, "0 1 1, 1 0 1, 2 3 1, 3 4 1, 4 2 0", 1, 1, []int{0, 1}, 2, "a component that is not critical"},
		{5, "0 1 1, 1 0 1, 1 2 -9, 2 3 1, 3 4 1, 4 2 1, 4 0 -9", 1, 1, []int{0, 1, 3, 4, 5}, 6, "critical components of a connected graph"},
		{3, "0 1 2, 1 0 2, 1 2 2, 2 0 2", 2, 1, []int{0, 1, 2, 3}, 1, "cycles of 2 and of 3 with a node in common"},
		{4, "0 1 2, 1 2 2, 2 3 2, 3 0 2, 1 0 2", 2, 1, []int{0, 1, 2, 3, 4}, 2, "cycles of 4 and of 2 with an arc in common"},
		{3, "0 1 1, 1 2 1, 2 0 2, 1 0 1", 4, 3, []int{0, 1, 2}, 3, "a third"},
		{3, "0 1 1, 1 2 1, 2 0 0, 1 0 1, 2 2 -1", 1, 1, []int{0, 3}, 2, "a shorter cycle that is greater"},
		{16, "15 0 4, 0 15 5, 3 3 4", 9, 2, []int{0, 1}, 2, "the last node"},
	} {
		t.Log(x.whatItDoes)
		expectMean(t, x.n, graph(x.arcs), ratio(x.num, x.den))
		expectCritical(t, x.n, graph(x.arcs), x.critical)
		expectCyclicity(t, x.n, graph(x.arcs), x.cyclicity)
	}
}

// Graphs without a cycle: the one of no arcs, and one of the most nodes in which
// all arcs lead to greater nodes.
func TestNoCycle(t *testing.T) {
	var forward arcs
	for from := range api.MaxStates {
		for to := range from {
			forward = append(forward, arc{From: to, To: from, Time: from})
		}
	}
	for _, as := range []arcs{nil, {}, graph("0 1 5"), graph("0 1 5, 2 1 5, 0 1 6"), forward} {
		expectMean(t, api.MaxStates, as, nil)
		expectCritical(t, api.MaxStates, as, nil)
		expectCyclicity(t, api.MaxStates, as, 0)
	}
	expectMean(t, 1, nil, nil)
	expectCritical(t, 1, nil, nil)
	expectCyclicity(t, 1, nil, 0)
}

// expectAll compares Mean, Critical and Cyclicity with all cycles of a graph.
func expectAll(t *testing.T, n int, as arcs) {
	t.Helper()
	best, mean := greatest(n, as)
	expectMean(t, n, as, mean)
	var critical []int
	period := 0
	for _, cycle := range best {
		critical = append(critical, cycle...)
	}
	slices.Sort(critical)
	critical = slices.Compact(critical)
	expectCritical(t, n, as, critical)
	if mean != nil {
		period = 1
	}
	// Two arcs are of one component exactly if a cycle of critical arcs, or several
	// that meet one another, have both: those of its nodes.
	component := map[int]int{}
	for node := range n {
		component[node] = node
	}
	for range n {
		for _, i := range critical {
			low := min(component[as[i].From], component[as[i].To])
			component[as[i].From], component[as[i].To] = low, low
		}
	}
	of := map[int]int{}
	for _, cycle := range best {
		first := component[as[cycle[0]].From]
		of[first] = gcd(of[first], len(cycle))
	}
	for _, size := range of {
		period = lcm(period, size)
	}
	expectCyclicity(t, n, as, period)
}

func TestSmallGraphs(t *testing.T) {
	r := rand.New(rand.NewSource(1))
	for range 6000 {
		n := between(r, 1, 6)
		expectAll(t, n, someGraph(r, n, r.Intn(3*n), []int{0, 1, 2, 10, api.MaxTime}[r.Intn(5)]))
	}
	for range 2000 {
		n := between(r, 2, 6)
		expectAll(t, n, someConnected(r, n, r.Intn(n), []int{0, 1, 3}[r.Intn(3)]))
	}
}

// Graphs of many cycles with the same mean: those of which each arc has the
// difference of two numbers of its nodes as its time have no other cycles.
func TestManyCriticalArcs(t *testing.T) {
	r := rand.New(rand.NewSource(2))
	above := 0
	for range 3000 {
		n := between(r, 2, 7)
		as := someGraph(r, n, between(r, n, 2*n), 0)
		height := someState(r, n, 1000)
		for i, a := range as {
			as[i].Time = height[a.To] - height[a.From] - 17
			if r.Intn(6) == 0 {
				as[i].Time--
			}
		}
		expectAll(t, n, as)
		if best, _ := greatest(n, as); len(best) > 3 {
			above++
		}
	}
	if above < 300 {
		t.Errorf("%d graphs have many such cycles", above)
	}
}

// Graphs of the most nodes and arcs, with oracles that do not list all cycles.
func TestLargeGraphs(t *testing.T) {
	r := rand.New(rand.NewSource(3))
	for i := range 60 {
		time := []int{0, 1, 5, api.MaxTime}[i%4]
		as := someGraph(r, api.MaxStates, []int{20, 60, api.MaxArcs}[i%3], time)
		expectLarge(t, as)
	}
	for range 60 {
		height := someState(r, api.MaxStates, 1000)
		as := someGraph(r, api.MaxStates, between(r, 16, 40), 0)
		for i, a := range as {
			as[i].Time = height[a.To] - height[a.From] + 3
		}
		expectLarge(t, as)
	}
}

// expectLarge checks the cycle of Mean by its potentials, and the others by them.
func expectLarge(t *testing.T, as arcs) {
	t.Helper()
	n := api.MaxStates
	text, _, e := line.Mean(n, as)
	if e == api.ErrNone {
		if _, ok := least(n, as, ratio(-2*api.MaxTime, 1)); !ok {
			t.Errorf("Mean(%d, %v): error %d", n, as, e)
		}
		expectCritical(t, n, as, nil)
		expectCyclicity(t, n, as, 0)
		return
	}
	m := rat(t, text)
	expectMean(t, n, as, m)
	if _, ok := least(n, as, m); !ok {
		t.Errorf("Mean(%d, %v) = %s is not the greatest", n, as, text)
	}
	critical := criticalBy(n, as, m)
	expectCritical(t, n, as, critical)
	expectCyclicity(t, n, as, periodBy(as, critical))
}

// The cyclicity is a least common multiple: with 16 nodes at most 140.
func TestGreatCyclicities(t *testing.T) {
	join := func(sizes ...int) arcs {
		var out arcs
		first := 0
		for _, size := range sizes {
			out = append(out, ring(first, size, size)...)
			first += size
		}
		return out
	}
	expectCyclicity(t, 16, join(4, 5, 7), 140)
	expectCyclicity(t, 16, join(7, 4, 5), 140)
	expectCyclicity(t, 16, join(2, 3, 4, 7), 84)
	expectCyclicity(t, 16, join(6, 10), 30)
	expectCyclicity(t, 16, join(8, 8), 8)
	expectCyclicity(t, 16, join(16), 16)
	expectCyclicity(t, 16, join(15), 15)
	expectCyclicity(t, 16, append(join(16), arc{From: 11, To: 0, Time: -4}), 4)
	expectCyclicity(t, 16, append(join(16), arc{From: 14, To: 0, Time: -1}), 1)
	expectCyclicity(t, 16, append(join(16), arc{From: 14, To: 0, Time: -2}), 16)
	expectCyclicity(t, 16, append(join(16), arc{From: 14, To: 0, Time: 0}), 15)
	for size := 1; size <= 16; size++ {
		as := ring(0, size, 1)
		expectMean(t, size, as, ratio(1, size))
		expectCyclicity(t, size, as, size)
	}
}

// The limits of times and of arcs.
func TestExtremeGraphs(t *testing.T) {
	expectMean(t, 1, graph("0 0 1000000"), ratio(1000000, 1))
	expectMean(t, 1, graph("0 0 -1000000"), ratio(-1000000, 1))
	expectMean(t, 2, graph("0 1 1000000, 1 0 -1000000"), ratio(0, 1))
	expectMean(t, 2, graph("0 1 1000000, 1 0 -999999"), ratio(1, 2))
	expectMean(t, 2, graph("0 1 -1000000, 1 0 999999"), ratio(-1, 2))
	for _, time := range []int{-api.MaxTime, api.MaxTime} {
		as := slices.Repeat(arcs{{From: 15, To: 15, Time: time}}, api.MaxArcs)
		expectMean(t, 16, as, ratio(time, 1))
		var all []int
		for i := range as {
			all = append(all, i)
		}
		expectCritical(t, 16, as, all)
		for i := range as {
			as[i] = arc{From: i / 16, To: i % 16, Time: time}
		}
		expectMean(t, 16, as, ratio(time, 1))
		expectCritical(t, 16, as, all)
		expectCyclicity(t, 16, as, 1)
		as[255].Time = -as[255].Time
		expectLarge(t, as)
	}
	// Means that differ by as little as those of 16 nodes can.
	as := append(ring(0, 15, api.MaxTime), arc{From: 13, To: 0})
	as[14].Time, as[15].Time = 66666, -4445 // 71111 + 1/15 and 71111 + 1/14
	expectMean(t, 15, as, ratio(995555, 14))
	as[15].Time--
	expectMean(t, 15, as, ratio(1066666, 15))
}
