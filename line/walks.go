package line

import (
	"math"
	"slices"

	"cracknel/api"
)

// paths has a bit for every two nodes: whether a walk of some kind leads from the
// node of a row to that of a bit.
type paths [api.MaxStates]uint16

// newPaths returns the walks of one arc.
func newPaths(arcs []api.Arc) paths {
	var out paths
	for _, a := range arcs {
		out[a.From] |= 1 << a.To
	}
	return out
}

// reach returns the walks of any number of arcs, also of none.
func reach(arcs []api.Arc) paths {
	step := newPaths(arcs)
	for node := range step {
		step[node] |= 1 << node
	}
	// Where a walk leads, one leads that has fewer arcs than there are nodes.
	return power(step, api.MaxStates)
}

func (p paths) lead(from, to int) bool { return p[from]>>to&1 == 1 }

// times returns the walks that consist of one of p and then one of q.
func (p paths) times(q paths) paths {
	var out paths
	for from := range p {
		for via := range q {
			if p.lead(from, via) {
				out[from] |= q[via]
			}
		}
	}
	return out
}

// never is the time of what does not happen.
const never = math.MinInt

// delays has for every two nodes the greatest time of a walk of some number of
// arcs from the node of a row to that of a column, and never if there is none.
type delays [api.MaxStates][api.MaxStates]int

// newDelays returns the delays of one arc.
func newDelays(arcs []api.Arc) delays {
	var out delays
	for from := range out {
		for to := range out {
			out[from][to] = never
		}
	}
	for _, a := range arcs {
		out[a.From][a.To] = max(out[a.From][a.To], a.Time)
	}
	return out
}

// times returns the delays of walks of d and then of e.
func (d delays) times(e delays) delays {
	for from, row := range d {
		d[from] = state(row).then(e)
	}
	return d
}

// A state has the time of each node, and never for what is no node.
type state [api.MaxStates]int

// newState returns the state of these times.
func newState(x []int) state {
	var out state
	for node := range out {
		out[node] = never
	}
	copy(out[:], x)
	return out
}

// list returns the times of the nodes.
func (x state) list(n int) []int { return slices.Clone(x[:n]) }

// then returns the state at the ends of walks that begin in x.
func (x state) then(d delays) state {
	out := newState(nil)
	for from, time := range x {
		for to, delay := range d[from] {
			if time != never && delay != never {
				out[to] = max(out[to], time+delay)
			}
		}
	}
	return out
}
