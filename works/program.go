package works

import (
	"slices"

	"cracknel/api"
	"cracknel/blend"
	"cracknel/whole"
)

// A program is a linear program with a box for its variables.
type program struct {
	costs     []api.Num
	rows      []api.Row // their Coef are never changed
	low, high []int
}

func (p *program) clone() program {
	return program{slices.Clone(p.costs), slices.Clone(p.rows), slices.Clone(p.low), slices.Clone(p.high)}
}

func (p *program) linear() api.Program { return api.Program{Cost: p.costs, Rows: p.rows} }

func (w *Works) setCosts(words []string) (string, api.Errno) {
	w.program.costs = nums(words)
	return "", api.OK
}

// kindOf returns the kind of a row, or 0 if there is no such kind.
func kindOf(word string) int {
	switch word {
	case "most":
		return api.AtMost
	case "least":
		return api.AtLeast
	case "equal":
		return api.Equal
	}
	return 0
}

func (w *Works) addRow(words []string) (string, api.Errno) {
	kind := kindOf(words[0])
	if kind == 0 {
		return "", api.ErrForm
	}
	if len(w.program.rows) == api.MaxLimits {
		return "", api.ErrFull
	}
	list := nums(words[1:])
	w.program.rows = append(w.program.rows, api.Row{Coef: list[1:], Kind: kind, Right: list[0]})
	return "", api.OK
}

// setPart makes a value of the recipe a cost.
func (w *Works) setPart(words []string) (string, api.Errno) {
	i := numbers(words[:1])[0]
	if i < 0 || i >= len(w.program.costs) {
		return "", api.ErrArg
	}
	q, e := w.book.evaluate(words[1])
	if e != api.OK {
		return "", e
	}
	w.program.costs[i] = q.Value
	return "", api.OK
}

func (w *Works) solveBlend([]string) (string, api.Errno) {
	a, e := blend.Solve(w.program.linear())
	switch {
	case e != api.OK:
		return "", e
	case a.Kind == api.Infeasible:
		return text("infeasible"), api.OK
	case a.Kind == api.Unbounded:
		return text("unbounded"), api.OK
	}
	return value("optimal", a.Value) + value("x", a.X...), api.OK
}

func (w *Works) setBoxes(words []string) (string, api.Errno) {
	w.program.low, w.program.high = nil, nil
	for _, pair := range points(words) {
		w.program.low = append(w.program.low, pair.X)
		w.program.high = append(w.program.high, pair.Y)
	}
	return "", api.OK
}

func (w *Works) solveWhole([]string) (string, api.Errno) {
	x, cost, e := whole.Solve(w.program.linear(), w.program.low, w.program.high)
	if e != api.OK {
		return "", e
	}
	return number("x", x...) + number("cost", cost), api.OK
}

// fillBags asks for nothing but its words.
func (w *Works) fillBags(words []string) (string, api.Errno) {
	list := numbers(words)
	counts, e := whole.Bags(list[1:], list[0])
	if e != api.OK {
		return "", e
	}
	return number("bags", counts...), api.OK
}
