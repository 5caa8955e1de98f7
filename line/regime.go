package line

import (
	"math/bits"

	"cracknel/api"
)

// run returns the state after some steps.
func (g graph) run(x state, steps int) state {
	if steps == 0 {
		return x
	}
	return x.then(power(newDelays(g.arcs), steps))
}

// gain returns the number by which all nodes of y are after those of x, or false
// if there is no such number.
func (g graph) gain(x, y state) (int, bool) {
	gain := y[0] - x[0]
	for node := range g.size {
		if y[node]-x[node] != gain {
			return 0, false
		}
	}
	return gain, true
}

// regime returns when a state becomes periodic, its period and its gain: if it is
// not yet periodic after MaxSteps steps, a greater number of them, and no gain.
func (g graph) regime(x state) (start, period, gain int) {
	cyclicity, _ := g.cyclicity()
	x, start = g.settle(x, cyclicity)
	y := x
	for period = 1; period <= cyclicity; period++ {
		y = y.then(newDelays(g.arcs))
		if gain, ok := g.gain(x, y); ok {
			return start, period, gain
		}
	}
	return start, period, 0
}

// settle returns the first periodic state after x, and the number of steps to it,
// or a state after more than MaxSteps steps. As the period divides the cyclicity,
// a state is periodic if it comes back after so many steps; all states after it
// are so, too, so that those before it are passed by ever smaller leaps.
func (g graph) settle(x state, cyclicity int) (state, int) {
	round := power(newDelays(g.arcs), cyclicity)
	isPeriodic := func(x state) bool {
		_, ok := g.gain(x, x.then(round))
		return ok
	}
	if isPeriodic(x) {
		return x, 0
	}
	steps := 0
	leaps := g.leaps()
	for i := len(leaps) - 1; i >= 0; i-- {
		if y := x.then(leaps[i]); !isPeriodic(y) {
			x, steps = y, steps+1<<i
		}
	}
	return x.then(leaps[0]), steps + 1
}

// leaps returns the delays of 1, 2, 4 and so on steps, together MaxSteps or more.
func (g graph) leaps() []delays {
	out := []delays{newDelays(g.arcs)}
	for len(out) < bits.Len(api.MaxSteps) {
		out = append(out, power(out[len(out)-1], 2))
	}
	return out
}
