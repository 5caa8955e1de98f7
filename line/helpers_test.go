package line_test

import (
	"math/big"
	"math/rand"
	"slices"
	"strconv"
	"strings"
	"testing"

	"cracknel/api"
	"cracknel/line"
)

type (
	arc   = api.Arc
	arcs  = []api.Arc
	loop  = api.Loop
	loops = []api.Loop
)

// triples reads groups of three numbers: "0 1 3, 1 0 2".
func triples(text string) [][3]int {
	var out [][3]int
	for _, part := range strings.Split(text, ",") {
		words := strings.Fields(part)
		if len(words) == 0 {
			continue
		}
		var group [3]int
		for i, word := range words {
			n, err := strconv.Atoi(word)
			if err != nil {
				panic(text)
			}
			group[i] = n
		}
		out = append(out, group)
	}
	return out
}

// graph reads arcs: from where, to where, and a time.
func graph(text string) arcs {
	var out arcs
	for _, x := range triples(text) {
		out = append(out, arc{From: x[0], To: x[1], Time: x[2]})
	}
	return out
}

// rings reads loops: from where, to where, and trays.
func rings(text string) loops {
	var out loops
	for _, x := range triples(text) {
		out = append(out, loop{From: x[0], To: x[1], Trays: x[2]})
	}
	return out
}

// ring returns a cycle of nodes from the first one on, of which one arc has a
// time and the others have none.
func ring(first, size, time int) arcs {
	var out arcs
	for i := range size {
		out = append(out, arc{From: first + i, To: first + (i+1)%size})
	}
	out[0].Time = time
	return out
}

func between(r *rand.Rand, low, high int) int { return low + r.Intn(high-low+1) }

// someGraph returns random arcs of n nodes.
func someGraph(r *rand.Rand, n, count, time int) arcs {
	var out arcs
	for range count {
		out = append(out, arc{From: r.Intn(n), To: r.Intn(n), Time: between(r, -time, time)})
	}
	return out
}

// someConnected returns a random graph that is strongly connected.
func someConnected(r *rand.Rand, n, more, time int) arcs {
	out := someGraph(r, n, more, time)
	order := r.Perm(n)
	for i, node := range order {
		out = append(out, arc{From: node, To: order[(i+1)%n], Time: between(r, -time, time)})
	}
	r.Shuffle(len(out), func(i, j int) { out[i], out[j] = out[j], out[i] })
	return out
}

// someLive returns a random graph that is live.
func someLive(r *rand.Rand, n, more, time int) arcs {
	out := someGraph(r, n, more, time)
	for node := range n {
		out = append(out, arc{From: r.Intn(n), To: node, Time: between(r, -time, time)})
	}
	r.Shuffle(len(out), func(i, j int) { out[i], out[j] = out[j], out[i] })
	return out
}

func someState(r *rand.Rand, n, time int) []int {
	var out []int
	for range n {
		out = append(out, between(r, -time, time))
	}
	return out
}

// rat reads a Num in lowest terms.
func rat(t *testing.T, x api.Num) *big.Rat {
	t.Helper()
	out, ok := new(big.Rat).SetString(string(x))
	if !ok || numOf(out) != x {
		t.Fatalf("%q is no Num", x)
	}
	return out
}

func numOf(x *big.Rat) api.Num { return api.Num(x.RatString()) }

func ratio(a, b int) *big.Rat { return big.NewRat(int64(a), int64(b)) }

// cycles returns all cycles of a graph, each one from its least node on.
func cycles(n int, as arcs) [][]int {
	var out [][]int
	var walk []int
	passed := map[int]bool{}
	var extend func(first, node int)
	extend = func(first, node int) {
		passed[node] = true
		for i, a := range as {
			if a.From != node || a.To < first {
				continue
			}
			walk = append(walk, i)
			if a.To == first {
				out = append(out, slices.Clone(walk))
			} else if !passed[a.To] {
				extend(first, a.To)
			}
			walk = walk[:len(walk)-1]
		}
		passed[node] = false
	}
	for first := range n {
		extend(first, first)
	}
	return out
}

// isCycle follows the chapter's words.
func isCycle(as arcs, cycle []int) bool {
	from := map[int]bool{}
	for i, a := range cycle {
		if a < 0 || a >= len(as) || from[as[a].From] || as[a].To != as[cycle[(i+1)%len(cycle)]].From {
			return false
		}
		from[as[a].From] = true
	}
	return len(cycle) > 0
}

// meanOf returns the mean of a cycle.
func meanOf(as arcs, cycle []int) *big.Rat {
	sum := 0
	for _, i := range cycle {
		sum += as[i].Time
	}
	return ratio(sum, len(cycle))
}

// greatest returns the cycles with the greatest mean, and that mean: nothing if
// there is no cycle.
func greatest(n int, as arcs) ([][]int, *big.Rat) {
	var best [][]int
	var mean *big.Rat
	for _, cycle := range cycles(n, as) {
		m := meanOf(as, cycle)
		if mean == nil || m.Cmp(mean) > 0 {
			best, mean = nil, m
		}
		if m.Cmp(mean) == 0 {
			best = append(best, cycle)
		}
	}
	return best, mean
}

// longest returns for every two nodes the longest way from one to the other, if
// each arc has its time less m: of no arcs for a node and itself, nothing if
// there is none, and false if there are cycles above m.
func longest(n int, as arcs, m *big.Rat) ([][]*big.Rat, bool) {
	way := make([][]*big.Rat, n)
	for i := range way {
		way[i] = make([]*big.Rat, n)
		way[i][i] = new(big.Rat)
	}
	raise := func(from, to int, x *big.Rat) {
		if way[from][to] == nil || way[from][to].Cmp(x) < 0 {
			way[from][to] = x
		}
	}
	for _, a := range as {
		raise(a.From, a.To, new(big.Rat).Sub(ratio(a.Time, 1), m))
	}
	for via := range n {
		for from := range n {
			for to := range n {
				if way[from][via] != nil && way[via][to] != nil {
					raise(from, to, new(big.Rat).Add(way[from][via], way[via][to]))
				}
			}
		}
	}
	for i := range n {
		if way[i][i].Sign() > 0 {
			return nil, false
		}
	}
	return way, true
}

// least returns the least potentials for m: the longest way to each node.
func least(n int, as arcs, m *big.Rat) ([]*big.Rat, bool) {
	way, ok := longest(n, as, m)
	if !ok {
		return nil, false
	}
	var out []*big.Rat
	for to := range n {
		most := new(big.Rat)
		for from := range n {
			if x := way[from][to]; x != nil && x.Cmp(most) > 0 {
				most = x
			}
		}
		out = append(out, most)
	}
	return out, true
}

// criticalBy returns the critical arcs if m is the greatest mean: those that a
// way back makes a cycle of that mean.
func criticalBy(n int, as arcs, m *big.Rat) []int {
	way, ok := longest(n, as, m)
	var out []int
	for i, a := range as {
		if back := way[a.To][a.From]; ok && back != nil {
			sum := new(big.Rat).Add(new(big.Rat).Sub(ratio(a.Time, 1), m), back)
			if sum.Sign() == 0 {
				out = append(out, i)
			}
		}
	}
	return out
}

// periodBy returns the cyclicity if these are the critical arcs: the depths of a
// search through a component differ along each arc by 1, but for what its cycles
// have in common.
func periodBy(as arcs, critical []int) int {
	depth := map[int]int{}
	period := 1
	for _, first := range critical {
		root := as[first].From
		if _, ok := depth[root]; ok {
			continue
		}
		depth[root] = 0
		found := []int{root}
		for i := 0; i < len(found); i++ {
			for _, c := range critical {
				if _, ok := depth[as[c].To]; as[c].From == found[i] && !ok {
					depth[as[c].To] = depth[found[i]] + 1
					found = append(found, as[c].To)
				}
			}
		}
		of := 0
		for _, c := range critical {
			if slices.Contains(found, as[c].From) {
				of = gcd(of, depth[as[c].From]+1-depth[as[c].To])
			}
		}
		period = lcm(period, of)
	}
	return period
}

func gcd(a, b int) int {
	if b == 0 {
		return max(a, -a)
	}
	return gcd(b, a%b)
}

func lcm(a, b int) int { return a / gcd(a, b) * b }

// next follows the chapter's words.
func next(n int, as arcs, x []int) []int {
	out := make([]int, n)
	for node := range out {
		isFirst := true
		for _, a := range as {
			if a.To == node && (isFirst || x[a.From]+a.Time > out[node]) {
				out[node], isFirst = x[a.From]+a.Time, false
			}
		}
		if isFirst {
			panic("not live")
		}
	}
	return out
}

// after returns the state after some steps.
func after(n int, as arcs, x []int, steps int) []int {
	x = slices.Clone(x)
	for range steps {
		x = next(n, as, x)
	}
	return x
}

// regime returns s, p and the gain: as soon as a state differs from an earlier
// one by one number. It returns false after more than most steps.
func regime(n int, as arcs, x []int, most int) (int, int, int, bool) {
	type shape [api.MaxStates]int
	shapeOf := func(x []int) shape {
		var out shape
		for i := range x {
			out[i] = x[i] - x[0]
		}
		return out
	}
	seen := map[shape][2]int{shapeOf(x): {0, x[0]}}
	for steps := 1; steps <= most; steps++ {
		x = next(n, as, x)
		if before, ok := seen[shapeOf(x)]; ok {
			return before[0], steps - before[0], x[0] - before[1], true
		}
		seen[shapeOf(x)] = [2]int{steps, x[0]}
	}
	return 0, 0, 0, false
}

// leaving follows the chapter's words: D(last, k) for all items.
func leaving(times []int, ls loops, items int) []int {
	type pass struct{ station, item int }
	known := map[pass]int{}
	var done func(i, k int) int
	done = func(i, k int) int {
		if k < 1 || i == -1 {
			return 0
		}
		if d, ok := known[pass{i, k}]; ok {
			return d
		}
		start := max(done(i, k-1), done(i-1, k))
		for _, l := range ls {
			if l.From == i {
				start = max(start, done(l.To, k-l.Trays))
			}
		}
		known[pass{i, k}] = start + times[i]
		return start + times[i]
	}
	var out []int
	for k := 1; k <= items; k++ {
		out = append(out, done(len(times)-1, k))
	}
	return out
}

// A wait is what a station waits for: a station, some items before.
type wait struct {
	from, to, items int
}

// rateBy returns the greatest time for an item of all cycles of waits.
func rateBy(times []int, ls loops) *big.Rat {
	var waits []wait
	var as arcs
	for i := range times {
		waits = append(waits, wait{i, i, 1})
		if i > 0 {
			waits = append(waits, wait{i - 1, i, 0})
		}
	}
	for _, l := range ls {
		waits = append(waits, wait{l.To, l.From, l.Trays})
	}
	for _, w := range waits {
		as = append(as, arc{From: w.from, To: w.to, Time: times[w.to]})
	}
	best := new(big.Rat)
	for _, cycle := range cycles(len(times), as) {
		time, items := 0, 0
		for _, i := range cycle {
			time += as[i].Time
			items += waits[i].items
		}
		if rate := ratio(time, items); rate.Cmp(best) > 0 {
			best = rate
		}
	}
	return best
}

// somePlant returns a random plant.
func somePlant(r *rand.Rand, stations, count, time, trays int) ([]int, loops) {
	var times []int
	for range stations {
		times = append(times, between(r, 0, time))
	}
	return times, someLoops(r, stations, count, trays)
}

func someLoops(r *rand.Rand, stations, count, trays int) loops {
	var out loops
	for range count {
		from := r.Intn(stations)
		out = append(out, loop{From: from, To: between(r, from, stations-1), Trays: between(r, 1, trays)})
	}
	return out
}

func expectMean(t *testing.T, n int, as arcs, want *big.Rat) {
	t.Helper()
	m, cycle, e := line.Mean(n, as)
	if want == nil {
		if m != "" || len(cycle) > 0 || e != api.ErrNone {
			t.Errorf("Mean(%d, %v) = %q, %v, error %d, want error %d", n, as, m, cycle, e, api.ErrNone)
		}
		return
	}
	if m != numOf(want) || e != api.OK || !isCycle(as, cycle) || meanOf(as, cycle).Cmp(want) != 0 {
		t.Errorf("Mean(%d, %v) = %q, %v, error %d, want %s", n, as, m, cycle, e, want.RatString())
	}
}

func expectCritical(t *testing.T, n int, as arcs, want []int) {
	t.Helper()
	if got, e := line.Critical(n, as); e != api.OK || !slices.Equal(got, want) {
		t.Errorf("Critical(%d, %v) = %v, error %d, want %v", n, as, got, e, want)
	}
}

// expectCyclicity expects ErrNone for 0.
func expectCyclicity(t *testing.T, n int, as arcs, want int) {
	t.Helper()
	wanted := api.OK
	if want == 0 {
		wanted = api.ErrNone
	}
	if got, e := line.Cyclicity(n, as); e != wanted || got != want {
		t.Errorf("Cyclicity(%d, %v) = %d, error %d, want %d", n, as, got, e, want)
	}
}

// expectPotentials expects ErrNone for none.
func expectPotentials(t *testing.T, n int, as arcs, m api.Num, want []*big.Rat) {
	t.Helper()
	wanted := api.OK
	if want == nil {
		wanted = api.ErrNone
	}
	got, e := line.Potentials(n, as, m)
	isEqual := len(got) == len(want)
	for i := range want {
		isEqual = isEqual && got[i] == numOf(want[i])
	}
	if e != wanted || !isEqual {
		t.Errorf("Potentials(%d, %v, %s) = %v, error %d, want %v", n, as, m, got, e, want)
	}
}

// expectValues is expectPotentials with Nums: none for "".
func expectValues(t *testing.T, n int, as arcs, m api.Num, want string) {
	t.Helper()
	var values []*big.Rat
	for _, word := range strings.Fields(want) {
		values = append(values, rat(t, api.Num(word)))
	}
	expectPotentials(t, n, as, m, values)
}

func expectRun(t *testing.T, n int, as arcs, x []int, steps int, want []int) {
	t.Helper()
	if got, e := line.Run(n, as, x, steps); e != api.OK || !slices.Equal(got, want) {
		t.Errorf("Run(%d, %v, %v, %d) = %v, error %d, want %v", n, as, x, steps, got, e, want)
	}
}

func expectRegime(t *testing.T, n int, as arcs, x []int, s, p, gain int) {
	t.Helper()
	if gotS, gotP, got, e := line.Regime(n, as, x); e != api.OK || gotS != s || gotP != p || got != gain {
		t.Errorf("Regime(%d, %v, %v) = %d, %d, %d, error %d, want %d, %d, %d", n, as, x, gotS, gotP, got, e, s, p, gain)
	}
}

func expectPlant(t *testing.T, times []int, ls loops, items int, want []int) {
	t.Helper()
	if got, e := line.Plant(times, ls, items); e != api.OK || !slices.Equal(got, want) {
		t.Errorf("Plant(%v, %v, %d) = %v, error %d, want %v", times, ls, items, got, e, want)
	}
}

func expectRate(t *testing.T, times []int, ls loops, want *big.Rat) {
	t.Helper()
	if got, e := line.Rate(times, ls); e != api.OK || got != numOf(want) {
		t.Errorf("Rate(%v, %v) = %q, error %d, want %s", times, ls, got, e, want.RatString())
	}
}
