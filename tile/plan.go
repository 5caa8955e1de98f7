package tile

import "cracknel/api"

// A plan is in which order the cells of a set are decided, and by which pieces.
type plan struct {
	order  []api.Point
	pieces [][]cells // by the first cell in the order that they cover
}

// neighbours is, for each row and column, what the pieces cover that cover a cell.
type neighbours [api.MaxSide][api.MaxSide]cells

func (n *neighbours) of(x api.Point) cells { return n[x.Y][x.X] }

// newPlan returns a plan of what is left, which begins with its first cell.
func (b bench) newPlan(left cells) plan {
	var inside []cells
	var near neighbours
	for _, p := range b.pieces {
		if !left.holds(p.cells) {
			continue
		}
		inside = append(inside, p.cells)
		for x := range p.cells.all {
			near[x.Y][x.X] = near.of(x).joined(p.cells)
		}
	}
	order := near.order(left)
	return plan{order, sorted(inside, order)}
}

// order returns the cells of a set, the first one first, and then always the one
// after which the fewest of the others can be covered by pieces that cover cells
// before them. What may be left is all sets that differ in these cells only, so
// that they are to be few. (Rows would do for small cutters, but not for tall or
// scattered ones.)
func (n *neighbours) order(left cells) []api.Point {
	var order []api.Point
	var reached cells
	for next := left.first(); left != (cells{}); next = n.narrowest(left, reached) {
		order = append(order, next)
		reached = reached.joined(n.of(next))
		left = left.without(cells{}.with(next))
	}
	return order
}

// narrowest returns the cell of what is left after which the fewest are reached.
func (n *neighbours) narrowest(left, reached cells) api.Point {
	var best api.Point
	fewest := api.MaxSide * api.MaxSide
	for x := range left.all {
		others := left.without(cells{}.with(x))
		if width := others.common(reached.joined(n.of(x))).size(); width < fewest {
			best, fewest = x, width
		}
	}
	return best
}

// sorted returns pieces by the first cell in the order that they cover.
func sorted(pieces []cells, order []api.Point) [][]cells {
	out := make([][]cells, len(order))
	for _, p := range pieces {
		for i, x := range order {
			if p.has(x) {
				out[i] = append(out[i], p)
				break
			}
		}
	}
	return out
}

// next returns the number of the first cell in the order, from that one on, that
// is left; or the length of the order.
func (p *plan) next(left cells, from int) int {
	for from < len(p.order) && !left.has(p.order[from]) {
		from++
	}
	return from
}
