package line

import (
	"slices"

	"cracknel/api"
)

// mostTime is the greatest time of a state that is given, above 0 or below.
const mostTime = 1000000000000

// A graph is a valid timing graph.
type graph struct {
	size int
	arcs []api.Arc
}

// newGraph returns false unless a graph is valid.
func newGraph(n int, arcs []api.Arc) (graph, bool) {
	isNode := func(x int) bool { return 0 <= x && x < n }
	isWrong := func(a api.Arc) bool {
		return !isNode(a.From) || !isNode(a.To) || a.Time < -api.MaxTime || a.Time > api.MaxTime
	}
	if n < 1 || n > api.MaxStates || len(arcs) > api.MaxArcs || slices.ContainsFunc(arcs, isWrong) {
		return graph{}, false
	}
	return graph{n, arcs}, true
}

// isState reports whether times are a state of the graph.
func (g graph) isState(x []int) bool {
	isFar := func(time int) bool { return time < -mostTime || time > mostTime }
	return len(x) == g.size && !slices.ContainsFunc(x, isFar)
}

func (g graph) isLive() bool {
nodes:
	for node := range g.size {
		for _, a := range g.arcs {
			if a.To == node {
				continue nodes
			}
		}
		return false
	}
	return true
}

// isConnected reports whether the graph is strongly connected.
func (g graph) isConnected() bool {
	reached := reach(g.arcs)
	for from := range g.size {
		for to := range g.size {
			if !reached.lead(from, to) {
				return false
			}
		}
	}
	return true
}

// chosen returns some of the arcs.
func (g graph) chosen(numbers []int) []api.Arc {
	var out []api.Arc
	for _, i := range numbers {
		out = append(out, g.arcs[i])
	}
	return out
}

// length returns the sum of the times of some of the arcs.
func (g graph) length(numbers []int) int {
	sum := 0
	for _, i := range numbers {
		sum += g.arcs[i].Time
	}
	return sum
}
