package line

import (
	"cracknel/api"
	"cracknel/number"
)

// mean returns the greatest mean of a cycle, or false if there is none. It does
// so by Karp's theorem: for each node at which a walk of as many arcs as there
// are nodes ends, the longest of these is compared with the longest ones of fewer
// arcs.
func (g graph) mean() (number.Ratio, bool) {
	var best number.Ratio
	found := false
	longest := g.longest()
	for node, time := range longest[g.size] {
		if time == never {
			continue
		}
		if least := leastGain(longest, node); !found || best.Compare(least) < 0 {
			best, found = least, true
		}
	}
	return best, found
}

// longest returns for each number of arcs up to the number of nodes the times of
// the longest walks of so many arcs that end at each node.
func (g graph) longest() []state {
	step := newDelays(g.arcs)
	out := []state{newState(make([]int, g.size))}
	for k := range g.size {
		out = append(out, out[k].then(step))
	}
	return out
}

// leastGain returns how much an arc adds at least between the longest walks to a
// node of fewer arcs and that of the most arcs.
func leastGain(longest []state, node int) number.Ratio {
	most := len(longest) - 1
	var least number.Ratio
	for k := range most {
		if longest[k][node] == never {
			continue
		}
		gain := number.New(number.Of(longest[most][node]-longest[k][node]), number.Of(most-k))
		if k == 0 || gain.Compare(least) < 0 {
			least = gain
		}
	}
	return least
}

// surplus returns how far the time of each arc is above m, times the denominator
// of m.
func (g graph) surplus(m number.Ratio) []number.Integer {
	var out []number.Integer
	for _, a := range g.arcs {
		out = append(out, number.Of(a.Time).Times(m.Den()).Minus(m.Num()))
	}
	return out
}

// potentials returns the least potentials for m, times the denominator of m, or
// false if there are none.
func (g graph) potentials(m number.Ratio) ([]number.Integer, bool) {
	surplus := g.surplus(m)
	y := make([]number.Integer, g.size)
	// They are the surpluses of the longest walks. Without a cycle above m these
	// pass no node twice, so that the last one of these rounds raises nothing.
	for range g.size {
		isRaised := false
		for i, a := range g.arcs {
			if least := y[a.From].Plus(surplus[i]); y[a.To].Compare(least) < 0 {
				y[a.To], isRaised = least, true
			}
		}
		if !isRaised {
			return y, true
		}
	}
	return nil, false
}

// critical returns the numbers of the critical arcs, rising. The room that
// potentials for the greatest mean leave along the arcs of a cycle adds up to how
// far its mean is below for each of them: a cycle has that mean exactly if all its
// arcs are tight.
func (g graph) critical() []int {
	m, ok := g.mean()
	if !ok {
		return nil
	}
	y, _ := g.potentials(m)
	surplus := g.surplus(m)
	var tight []int
	for i, a := range g.arcs {
		if y[a.From].Plus(surplus[i]).Compare(y[a.To]) == 0 {
			tight = append(tight, i)
		}
	}
	reached := reach(g.chosen(tight))
	var out []int
	for _, i := range tight {
		if a := g.arcs[i]; reached.lead(a.To, a.From) {
			out = append(out, i)
		}
	}
	return out
}

// follow returns a cycle of critical arcs: nothing if there are none.
func (g graph) follow(critical []int) []int {
	if len(critical) == 0 {
		return nil
	}
	next := map[int]int{}
	for _, i := range critical {
		next[g.arcs[i].From] = i
	}
	var walk []int
	passed := map[int]int{}
	node := g.arcs[critical[0]].From
	for {
		if begin, ok := passed[node]; ok {
			return walk[begin:]
		}
		passed[node] = len(walk)
		walk = append(walk, next[node])
		node = g.arcs[next[node]].To
	}
}

// cyclicity returns false if there is no cycle. A node of critical arcs is of the
// same component as all nodes to which they lead, because each of them is in a
// cycle.
func (g graph) cyclicity() (int, bool) {
	critical := g.chosen(g.critical())
	periods := roundTrips(critical, g.size)
	reached := reach(critical)
	period := 1
	for node := range g.size {
		of := 0
		for other, n := range periods[:g.size] {
			if reached.lead(node, other) {
				of = divisor(of, n)
			}
		}
		if of > 0 {
			period = period / divisor(period, of) * of
		}
	}
	return period, len(critical) > 0
}

// roundTrips returns for each node the greatest common divisor of the numbers of
// arcs, up to most, of all walks back to it. The nodes of a component have together
// that of its cycles: a walk back consists of cycles, and a cycle is a walk back.
func roundTrips(arcs []api.Arc, most int) [api.MaxStates]int {
	var out [api.MaxStates]int
	step := newPaths(arcs)
	walks := step
	for k := range most {
		for node := range out {
			if walks.lead(node, node) {
				out[node] = divisor(out[node], k+1)
			}
		}
		walks = walks.times(step)
	}
	return out
}

// divisor returns the greatest common divisor: of 0 and b it is b.
func divisor(a, b int) int {
	for a > 0 {
		a, b = b%a, a
	}
	return b
}
