package line_test

import (
	"math/rand"
	"slices"
	"testing"

	"cracknel/api"
	"cracknel/line"
)

const (
	farthest  = 1000000000000
	mostSteps = 1000000000
)

func TestRunByHand(t *testing.T) {
	example := graph("0 1 3, 1 0 2, 0 0 2")
	for steps, want := range [][]int{{0, 0}, {2, 3}, {5, 5}, {7, 8}, {10, 10}} {
		expectRun(t, 2, example, []int{0, 0}, steps, want)
	}
	expectRun(t, 2, example, []int{0, 0}, mostSteps, []int{2500000000, 2500000000})
	expectRun(t, 2, example, []int{0, 0}, mostSteps-1, []int{2499999997, 2499999998})
	expectRun(t, 2, example, []int{0, 100}, 1, []int{102, 3})
	expectRun(t, 2, example, []int{0, 100}, 2, []int{104, 105})
	// The greatest of several arcs, and only of those that lead to a node.
	expectRun(t, 1, graph("0 0 1, 0 0 3, 0 0 2"), []int{-4}, 5, []int{11})
	expectRun(t, 1, graph("0 0 -1, 0 0 -3"), []int{-4}, 5, []int{-9})
	// Live and not strongly connected: node 2 leads nowhere, node 0 waits for itself alone.
	expectRun(t, 3, graph("0 0 1, 0 1 5, 1 2 -3"), []int{0, 50, 90}, 1, []int{1, 5, 47})
	expectRun(t, 3, graph("0 0 1, 0 1 5, 1 2 -3"), []int{0, 50, 90}, 2, []int{2, 6, 2})
	expectRun(t, 3, graph("0 0 1, 0 1 5, 1 2 -3"), []int{0, 50, 90}, mostSteps, []int{mostSteps, mostSteps + 4, mostSteps})
	// Two components of different rhythms.
	expectRun(t, 3, graph("0 0 1, 1 2 3, 2 1 4"), []int{0, 0, 0}, mostSteps, []int{mostSteps, mostSteps / 2 * 7, mostSteps / 2 * 7})
}

// The limits of states, steps and times: no result is beyond 2^62.
func TestFarthestRuns(t *testing.T) {
	for _, time := range []int{-api.MaxTime, api.MaxTime} {
		for _, x := range []int{-farthest, farthest} {
			expectRun(t, 1, arcs{{Time: time}}, []int{x}, 0, []int{x})
			expectRun(t, 1, arcs{{Time: time}}, []int{x}, 1, []int{x + time})
			expectRun(t, 1, arcs{{Time: time}}, []int{x}, mostSteps, []int{x + mostSteps*time})
			as := slices.Repeat(arcs{{From: 15, To: 15, Time: time}}, api.MaxArcs)
			for i := range as {
				as[i] = arc{From: i % 16, To: i / 16, Time: time}
			}
			state := slices.Repeat([]int{-farthest}, 16)
			state[7] = x
			expectRun(t, 16, as, state, mostSteps, slices.Repeat([]int{x + mostSteps*time}, 16))
		}
	}
}

func TestRun(t *testing.T) {
	r := rand.New(rand.NewSource(6))
	for i := range 2000 {
		n := between(r, 1, 8)
		as := someLive(r, n, r.Intn(2*n), []int{0, 1, 10, api.MaxTime}[i%4])
		x := someState(r, n, []int{0, 5, farthest}[i%3])
		steps := between(r, 0, 40)
		expectRun(t, n, as, x, steps, after(n, as, x, steps))
	}
	for i := range 20 {
		as := someLive(r, 16, api.MaxArcs-16, []int{1, 10, api.MaxTime}[i%3])
		x := someState(r, 16, farthest)
		expectRun(t, 16, as, x, 1000+i, after(16, as, x, 1000+i))
	}
	for steps := range 300 {
		as := someLive(r, 4, 3, 10)
		expectRun(t, 4, as, make([]int, 4), steps, after(4, as, make([]int, 4), steps))
	}
}

// After many steps the state is known by its regime.
func TestLongRuns(t *testing.T) {
	r := rand.New(rand.NewSource(7))
	for range 300 {
		n := between(r, 1, 8)
		as := someConnected(r, n, r.Intn(n), 5)
		x := someState(r, n, 20)
		s, p, gain, ok := regime(n, as, x, 5000)
		if !ok {
			t.Fatalf("%v, %v: no regime", as, x)
		}
		for _, steps := range []int{mostSteps, mostSteps - 1, between(r, s, mostSteps)} {
			want := after(n, as, x, s+(steps-s)%p)
			for i := range want {
				want[i] += (steps - s) / p * gain
			}
			expectRun(t, n, as, x, steps, want)
		}
	}
}

func TestRegimeByHand(t *testing.T) {
	expectRegime(t, 2, graph("0 1 3, 1 0 2, 0 0 2"), []int{0, 0}, 0, 2, 5)
	// A state that does not change its shape has the period 1.
	expectRegime(t, 2, graph("0 1 3, 1 0 3"), []int{4, 4}, 0, 1, 3)
	expectRegime(t, 2, graph("0 1 3, 1 0 3"), []int{4, 5}, 0, 2, 6)
	expectRegime(t, 2, graph("0 1 3, 1 0 2"), []int{0, 0}, 0, 2, 5)
	expectRegime(t, 1, graph("0 0 -3, 0 0 -4"), []int{-7}, 0, 1, -3)
	expectRegime(t, 1, graph("0 0 0"), []int{farthest}, 0, 1, 0)
	// It takes some steps until node 1 hears of node 0.
	expectRegime(t, 2, graph("0 0 2, 1 1 1, 0 1 0, 1 0 -9"), []int{0, 3}, 5, 1, 2)
	expectRegime(t, 2, graph("0 0 2, 1 1 1, 0 1 0, 1 0 -9"), []int{0, 30}, 13, 1, 2)
	// A period that is a divisor of the cyclicity only.
	six := ring(0, 6, 0)
	expectCyclicity(t, 6, six, 6)
	expectRegime(t, 6, six, []int{0, 0, 0, 0, 0, 0}, 0, 1, 0)
	expectRegime(t, 6, six, []int{0, 1, 0, 1, 0, 1}, 0, 2, 0)
	expectRegime(t, 6, six, []int{0, 1, 2, 0, 1, 2}, 0, 3, 0)
	expectRegime(t, 6, six, []int{0, 1, 2, 3, 4, 5}, 0, 6, 0)
}

// expectFound compares Regime with what is found step by step.
func expectFound(t *testing.T, n int, as arcs, x []int) (int, int) {
	t.Helper()
	s, p, gain, ok := regime(n, as, x, api.MaxSteps)
	if ok {
		expectRegime(t, n, as, x, s, p, gain)
		return s, p
	}
	s, p, gain, e := line.Regime(n, as, x)
	expectError(t, "Regime", []int{s, p, gain}, e, api.ErrLong)
	return 0, 0
}

func TestRegime(t *testing.T) {
	r := rand.New(rand.NewSource(8))
	late, long := 0, 0
	for i := range 4000 {
		n := between(r, 1, 8)
		as := someConnected(r, n, r.Intn(n+1), []int{0, 1, 3, 100}[i%4])
		if i%5 == 0 {
			// Two nodes of almost the same rhythm.
			as = append(as, arc{Time: 200}, arc{From: n - 1, To: n - 1, Time: 199})
		}
		s, p := expectFound(t, n, as, someState(r, n, []int{0, 3, 10000}[i%3]))
		if s > 20 {
			late++
		}
		if p > 2 {
			long++
		}
	}
	if late < 300 || long < 300 {
		t.Errorf("%d late regimes, %d long periods", late, long)
	}
	for i := range 20 {
		as := someConnected(r, 16, api.MaxArcs-16, []int{1, 10, 1000}[i%3])
		expectFound(t, 16, as, someState(r, 16, 10000))
	}
}

// Several critical components, of which the period is a least common multiple.
func TestGreatPeriods(t *testing.T) {
	as := append(append(ring(0, 4, 0), ring(4, 5, 0)...), ring(9, 7, 0)...)
	for _, between := range [][2]int{{0, 4}, {4, 9}, {9, 0}} {
		as = append(as, arc{From: between[0], To: between[1], Time: -1000})
	}
	expectCyclicity(t, 16, as, 140)
	expectRegime(t, 16, as, []int{0, 1, 1, 1, 0, 1, 1, 1, 1, 0, 1, 1, 1, 1, 1, 1}, 0, 140, 0)
	expectRegime(t, 16, as, []int{0, 1, 0, 1, 0, 1, 1, 1, 1, 0, 1, 1, 1, 1, 1, 1}, 0, 70, 0)
	expectRegime(t, 16, as, []int{1, 1, 1, 1, 0, 1, 1, 1, 1, 0, 1, 1, 1, 1, 1, 1}, 0, 35, 0)
	expectRegime(t, 16, as, []int{0, 1, 1, 1, 0, 1, 1, 1, 1, 1, 1, 1, 1, 1, 1, 1}, 0, 20, 0)
	// The second ring is ahead of the third one, which takes over its rhythm.
	s, p := expectFound(t, 16, as, []int{0, 1, 2, 5, 0, 1, 2, 3, 1500, 0, 1, 1, 1, 1, 1, 9})
	if s == 0 || p != 20 {
		t.Errorf("%d, %d", s, p)
	}
}

// s + p of MaxSteps, and of one more.
func TestLateRegimes(t *testing.T) {
	slow := graph("0 0 1, 1 1 0, 0 1 0, 1 0 -1000000")
	for _, x := range []struct{ time, s int }{{0, 1}, {1, 2}, {65534, 65535}, {65535, 65536}, {65536, 65537}, {99997, 99998}, {99998, 99999}} {
		expectRegime(t, 2, slow, []int{0, x.time}, x.s, 1, 1)
	}
	expectFound(t, 2, slow, []int{0, 99998})
	// The same with two nodes in the place of node 0, which take turns.
	turns := graph("0 2 1, 2 0 1, 1 1 0, 0 1 0, 1 0 -1000000")
	for time := 99990; time <= 100002; time++ {
		for first := range 3 {
			expectFound(t, 3, turns, []int{first, time, 0})
		}
	}
	for _, time := range []int{99999, 100000, 131070, 131071, 131072, 200000, api.MaxTime, farthest} {
		s, p, gain, e := line.Regime(2, slow, []int{0, time})
		expectError(t, "Regime", []int{s, p, gain}, e, api.ErrLong)
	}
	s, p, gain, e := line.Regime(2, graph("0 0 1000000, 1 1 999999, 0 1 -1000000, 1 0 -1000000"), []int{-farthest, farthest})
	expectError(t, "Regime", []int{s, p, gain}, e, api.ErrLong)
	expectRegime(t, 2, graph("0 0 1000000, 1 1 -1000000, 0 1 -1000000, 1 0 -1000000"), []int{-50000000000, 50000000000}, 2, 1, 1000000)
}
