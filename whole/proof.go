package whole

import (
	"cracknel/api"
	"cracknel/linear"
	"cracknel/number"
)

// A writer writes a proof.
type writer struct {
	problem
	least     number.Integer // the least cost
	isRefuted bool           // there is none, because there is no solution
	nodes     []api.Node
}

// write appends the proof for a box, or returns false if there is no room for it.
func (w *writer) write(b box, chosen []int) bool {
	if len(w.nodes) == api.MaxNodes {
		return false
	}
	o := w.relax(b, chosen)
	if o.isEmpty {
		w.nodes = append(w.nodes, api.Node{Kind: api.Empty, Y: o.y})
		return true
	}
	if !w.isRefuted && o.bound.Compare(w.least) >= 0 {
		w.nodes = append(w.nodes, api.Node{Kind: api.Bound, Y: o.y})
		return true
	}
	variable, at := o.cut()
	w.nodes = append(w.nodes, api.Node{Kind: api.Split, Var: variable, At: at})
	low, high := b.parts(variable, at)
	return w.write(low, o.tight) && w.write(high, o.tight)
}

// malformed is what a checker panics with if the nodes are no proof.
type malformed struct{}

// A checker checks a proof by multiplications and additions alone.
type checker struct {
	problem
	isRefutation bool           // there is to be no Bound
	below        number.Integer // or else Bounds are to be above this number
	nodes        []api.Node     // those that are not checked
}

// numsIn returns the Nums of a limit, if there is one, and of nodes.
func numsIn(limit api.Num, proof []api.Node) []api.Num {
	var out []api.Num
	if limit != "" {
		out = append(out, limit)
	}
	for _, n := range proof {
		out = append(out, n.Y...)
	}
	return out
}

func newChecker(q problem, limit api.Num, proof []api.Node) *checker {
	if limit == "" {
		return &checker{problem: q, isRefutation: true, nodes: proof}
	}
	return &checker{problem: q, below: number.Value(limit).Num().Minus(number.Of(1)), nodes: proof}
}

// accepts reports whether the nodes are a proof that shows what it is to show.
func (c *checker) accepts(b box) bool {
	isShown := c.shows(b)
	return isShown && len(c.nodes) == 0
}

// shows takes a proof for a box from the nodes and reports whether it shows what
// it is to show.
func (c *checker) shows(b box) bool {
	if len(c.nodes) == 0 {
		panic(malformed{})
	}
	n := c.nodes[0]
	c.nodes = c.nodes[1:]
	switch n.Kind {
	case api.Split:
		low, high := c.split(n, b)
		return c.shows(low) && c.shows(high)
	case api.Bound:
		bound, scale := c.bound(n, b, c.cost)
		return !c.isRefutation && bound.Compare(c.below.Times(scale)) > 0
	case api.Empty:
		bound, _ := c.bound(n, b, make([]number.Integer, len(c.cost)))
		if bound.Sign() <= 0 {
			panic(malformed{})
		}
		return true
	}
	panic(malformed{})
}

// split returns the parts into which a node splits a box.
func (c *checker) split(n api.Node, b box) (box, box) {
	if n.Var < 0 || n.Var >= len(b.low) || n.At < b.low[n.Var] || n.At >= b.high[n.Var] || len(n.Y) > 0 {
		panic(malformed{})
	}
	return b.parts(n.Var, n.At)
}

// bound returns what the multipliers of a node prove all solutions in a box to
// cost at least, as a quotient.
func (c *checker) bound(n api.Node, b box, cost []number.Integer) (num, den number.Integer) {
	y := number.Values(n.Y)
	if n.Var != 0 || n.At != 0 || len(y) != len(c.rows) || !linear.HaveSigns(c.rows, y) {
		panic(malformed{})
	}
	sum := linear.Combined(c.rows, y, len(cost))
	rest := make([]number.Integer, len(cost))
	for i := range rest {
		rest[i] = cost[i].Times(sum.Factor).Minus(sum.Coef[i])
	}
	return sum.Right.Plus(b.extreme(rest, -1)), sum.Factor
}
