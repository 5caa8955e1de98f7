package works

import (
	"slices"

	"cracknel/api"
	"cracknel/line"
)

// A graph is a timing graph.
type graph struct {
	nodes int
	arcs  []api.Arc
}

func newGraph() graph { return graph{nodes: 1} }

func (g *graph) clone() graph { return graph{g.nodes, slices.Clone(g.arcs)} }

func (w *Works) setNodes(words []string) (string, api.Errno) {
	n := numbers(words)[0]
	if n < 1 || n > api.MaxStates {
		return "", api.ErrArg
	}
	w.graph = graph{nodes: n}
	return "", api.OK
}

func (w *Works) addArc(words []string) (string, api.Errno) {
	if len(w.graph.arcs) == api.MaxArcs {
		return "", api.ErrFull
	}
	list := numbers(words)
	w.graph.arcs = append(w.graph.arcs, api.Arc{From: list[0], To: list[1], Time: list[2]})
	return "", api.OK
}

func (w *Works) showMean([]string) (string, api.Errno) {
	mean, _, e := line.Mean(w.graph.nodes, w.graph.arcs)
	if e != api.OK {
		return "", e
	}
	critical, e := line.Critical(w.graph.nodes, w.graph.arcs)
	if e != api.OK {
		return "", e
	}
	period, e := line.Cyclicity(w.graph.nodes, w.graph.arcs)
	if e != api.OK {
		return "", e
	}
	return value("mean", mean) + number("critical", critical...) + number("cyclicity", period), api.OK
}
