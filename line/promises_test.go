package line_test

import (
	"math/big"
	"math/rand"
	"slices"
	"testing"

	"cracknel/api"
	"cracknel/line"
)

// isProof reports, by additions and multiplications alone, whether potentials
// prove that no cycle has a mean above m, and a cycle that one has it.
func isProof(t *testing.T, n int, as arcs, m api.Num, y []api.Num, cycle []int) bool {
	t.Helper()
	mean := rat(t, m)
	if len(y) != n || !isCycle(as, cycle) || meanOf(as, cycle).Cmp(mean) != 0 {
		return false
	}
	for _, a := range as {
		from, to := rat(t, y[a.From]), rat(t, y[a.To])
		least := new(big.Rat).Add(from, new(big.Rat).Sub(ratio(a.Time, 1), mean))
		if from.Sign() < 0 || to.Sign() < 0 || to.Cmp(least) < 0 {
			return false
		}
	}
	return true
}

// L1 and P2: the potentials for Mean's result prove it, and for any lesser number
// there are none.
func TestDuality(t *testing.T) {
	r := rand.New(rand.NewSource(11))
	for i := range 600 {
		n := between(r, 1, api.MaxStates)
		as := someGraph(r, n, between(r, 1, api.MaxArcs), []int{0, 2, 1000, api.MaxTime}[i%4])
		m, cycle, e := line.Mean(n, as)
		if e == api.ErrNone {
			continue
		}
		y, f := line.Potentials(n, as, m)
		if e != api.OK || f != api.OK || !isProof(t, n, as, m, y, cycle) {
			t.Errorf("%d, %v: %s, %v, %v, errors %d, %d", n, as, m, cycle, y, e, f)
		}
		expectPotentials(t, n, as, numOf(new(big.Rat).Sub(rat(t, m), ratio(1, 1000000007))), nil)
	}
}

// L2: no element can be made smaller, even if all others may be as great as they
// like: each one is 0 or is held up by a walk from an element that is.
func TestLeast(t *testing.T) {
	r := rand.New(rand.NewSource(12))
	for range 600 {
		n := between(r, 1, api.MaxStates)
		as := someGraph(r, n, between(r, 1, 3*n), 9)
		m := ratio(between(r, 20, 60), between(r, 1, 7))
		y, e := line.Potentials(n, as, numOf(m))
		if e == api.ErrNone {
			continue
		}
		held := map[int]bool{}
		for i := range y {
			held[i] = y[i] == "0"
		}
		for range n {
			for _, a := range as {
				least := new(big.Rat).Add(rat(t, y[a.From]), new(big.Rat).Sub(ratio(a.Time, 1), m))
				held[a.To] = held[a.To] || held[a.From] && least.Cmp(rat(t, y[a.To])) == 0
			}
		}
		for i := range y {
			if e != api.OK || !held[i] {
				t.Errorf("Potentials(%d, %v, %s) = %v, error %d: element %d may be less", n, as, numOf(m), y, e, i)
			}
		}
	}
}

func run(t *testing.T, n int, as arcs, x []int, steps int) []int {
	t.Helper()
	out, e := line.Run(n, as, x, steps)
	if e != api.OK || len(out) != n {
		t.Fatalf("Run(%d, %v, %v, %d) = %v, error %d", n, as, x, steps, out, e)
	}
	return out
}

func moved(x []int, by int) []int {
	out := slices.Clone(x)
	for i := range out {
		out[i] += by
	}
	return out
}

// L3: a steps and then b steps are a + b steps, and a number that is added to a
// state is added to all states after it.
func TestSteps(t *testing.T) {
	r := rand.New(rand.NewSource(13))
	for i := range 500 {
		n := between(r, 1, api.MaxStates)
		as := someLive(r, n, r.Intn(2*n), []int{0, 3, 100, 500}[i%4])
		x := someState(r, n, farthest/4)
		most := []int{3, 1000, mostSteps}[i%3]
		a := r.Intn(most + 1)
		b := r.Intn(most - a + 1)
		expectRun(t, n, as, run(t, n, as, x, a), b, run(t, n, as, x, a+b))
		by := between(r, -farthest/2, farthest/2)
		expectRun(t, n, as, moved(x, by), a, moved(run(t, n, as, x, a), by))
	}
}

// L4: the gain is p times Mean, p divides the cyclicity, and the regime goes on.
func TestRegimeGoesOn(t *testing.T) {
	r := rand.New(rand.NewSource(14))
	for i := range 400 {
		n := between(r, 1, api.MaxStates)
		as := someConnected(r, n, r.Intn(2*n), []int{0, 2, 5, 100}[i%4])
		x := someState(r, n, 1000)
		s, p, gain, e := line.Regime(n, as, x)
		if e == api.ErrLong {
			continue
		}
		m, _, f := line.Mean(n, as)
		c, g := line.Cyclicity(n, as)
		if e != api.OK || f != api.OK || g != api.OK || p < 1 || c%p != 0 || numOf(ratio(gain, p)) != m {
			t.Fatalf("%d, %v, %v: %d, %d, %d with %s, %d", n, as, x, s, p, gain, m, c)
		}
		for _, k := range []int{0, 1, p - 1, 7, 12345} {
			here := run(t, n, as, x, s+k)
			expectRun(t, n, as, x, s+k+p, moved(here, gain))
			expectRun(t, n, as, x, s+k+1000*p, moved(here, 1000*gain))
		}
		if s > 0 {
			before := run(t, n, as, x, s-1)
			there := run(t, n, as, x, s-1+p)
			if slices.Equal(there, moved(before, gain)) {
				t.Errorf("%d, %v, %v: a regime before %d", n, as, x, s)
			}
		}
	}
}

// L5: Rate is at least each time and what each loop asks for; an additional tray
// never makes an item leave later, an additional loop never earlier.
func TestMoreTraysAndLoops(t *testing.T) {
	r := rand.New(rand.NewSource(15))
	for i := range 1500 {
		stations := between(r, 1, api.MaxPlant)
		times, ls := somePlant(r, stations, between(r, 1, 7), 6, []int{1, 3, 20}[i%3])
		text, e := line.Rate(times, ls)
		if e != api.OK {
			t.Fatal(e)
		}
		rate := rat(t, text)
		for _, time := range times {
			if rate.Cmp(ratio(time, 1)) < 0 {
				t.Errorf("Rate(%v, %v) = %s", times, ls, text)
			}
		}
		for _, l := range ls {
			sum := 0
			for station := l.From; station <= l.To; station++ {
				sum += times[station]
			}
			if rate.Cmp(ratio(sum, l.Trays)) < 0 {
				t.Errorf("Rate(%v, %v) = %s", times, ls, text)
			}
		}
		more := slices.Clone(ls)
		more[r.Intn(len(more))].Trays++
		expectNoLater(t, times, more, ls)
		expectNoLater(t, times, ls, append(slices.Clone(ls), someLoops(r, stations, 1, 3)...))
	}
}

// expectNoLater checks that no item leaves later with some loops than with others.
func expectNoLater(t *testing.T, times []int, ls, others loops) {
	t.Helper()
	early, e := line.Plant(times, ls, 60)
	late, f := line.Plant(times, others, 60)
	if e != api.OK || f != api.OK || len(early) != 60 || len(late) != 60 {
		t.Fatalf("errors %d, %d", e, f)
	}
	for k := range early {
		if early[k] > late[k] {
			t.Errorf("%v: item %d leaves at %d with %v, and at %d with %v", times, k+1, early[k], ls, late[k], others)
		}
	}
}

// L6: from some item on, an item leaves p times Rate after the p-th one before it.
func TestRateIsReached(t *testing.T) {
	r := rand.New(rand.NewSource(16))
	for range 500 {
		times, ls := somePlant(r, between(r, 1, api.MaxPlant), r.Intn(9), 5, 4)
		text, e := line.Rate(times, ls)
		out, f := line.Plant(times, ls, api.MaxItems)
		if e != api.OK || f != api.OK {
			t.Fatalf("errors %d, %d", e, f)
		}
		const p = 12 // all numbers of trays divide it
		gain := new(big.Rat).Mul(rat(t, text), ratio(p, 1))
		for k := 900; k+p < api.MaxItems; k++ {
			if ratio(out[k+p]-out[k], 1).Cmp(gain) != 0 {
				t.Errorf("Plant(%v, %v): items %d and %d leave at %d and %d, Rate %s", times, ls, k+1, k+p+1, out[k], out[k+p], text)
				break
			}
		}
	}
}

// The renaming of nodes and the order of arcs change nothing but names (P3: no
// result is the best one of some only).
func TestRenaming(t *testing.T) {
	r := rand.New(rand.NewSource(17))
	for range 300 {
		n := between(r, 1, api.MaxStates)
		as := someConnected(r, n, r.Intn(2*n), 4)
		x := someState(r, n, 50)
		name, place := r.Perm(n), r.Perm(len(as))
		others, y := make(arcs, len(as)), make([]int, n)
		for i, a := range as {
			others[place[i]] = arc{From: name[a.From], To: name[a.To], Time: a.Time}
		}
		for i := range x {
			y[name[i]] = x[i]
		}
		m, _, e := line.Mean(n, as)
		if e != api.OK {
			t.Fatal(e)
		}
		expectMean(t, n, others, rat(t, m))
		c, _ := line.Cyclicity(n, as)
		expectCyclicity(t, n, others, c)
		critical, _ := line.Critical(n, as)
		for i, a := range critical {
			critical[i] = place[a]
		}
		slices.Sort(critical)
		expectCritical(t, n, others, critical)
		if s, p, gain, e := line.Regime(n, as, x); e == api.OK {
			expectRegime(t, n, others, y, s, p, gain)
		}
	}
}
