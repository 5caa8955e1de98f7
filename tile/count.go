package tile

import (
	"cracknel/api"
	"cracknel/exact"
)

// A tally is a number of tilings: high·unit + low, where low is less than unit.
//
// It holds the number of tilings of any sheet, because n cells have at most 8^n:
// a cutter of one cell has one orientation, any other one has at most 8 and
// covers two cells or more, so that each of 8 cutters begins at most 8^(n-1).
type tally struct {
	high, low int
}

const unit = 1 << 60

func (t tally) plus(u tally) tally {
	low := t.low + u.low
	return tally{t.high + u.high + low/unit, low % unit}
}

// num returns a tally as a Num. Its digits are too few for an error.
func (t tally) num() api.Num {
	units, _ := exact.Make(t.high, 1)
	size, _ := exact.Make(unit, 1)
	low, _ := exact.Make(t.low, 1)
	high, _ := exact.Mul(units, size)
	sum, _ := exact.Add(high, low)
	return sum
}

// isLess compares Nums that are valid.
func isLess(a, b api.Num) bool {
	order, _ := exact.Cmp(a, b)
	return order < 0
}

// A counter counts the tilings of what is left.
type counter struct {
	plan
	known map[cells]tally
}

func (b bench) newCounter(left cells) *counter {
	return &counter{b.newPlan(left), map[cells]tally{}}
}

// count returns the number of tilings of what is left, of which no cell is before
// that one in the order.
func (c *counter) count(left cells, from int) tally {
	from = c.next(left, from)
	if from == len(c.order) {
		return tally{low: 1}
	}
	if n, ok := c.known[left]; ok {
		return n
	}
	var sum tally
	for _, p := range c.pieces[from] {
		if left.holds(p) {
			sum = sum.plus(c.count(left.without(p), from+1))
		}
	}
	c.known[left] = sum
	return sum
}

// after returns the number of tilings that begin with one of the choices: its
// cell is the first one in the order, too.
func (c *counter) after(left cells, p piece) tally { return c.count(left.without(p.cells), 1) }

func (b bench) count() tally { return b.newCounter(b.free).count(b.free, 0) }

// at returns the tiling of a number that is 0 or more and less than their count.
func (b bench) at(rank api.Num) []api.Laid {
	var out []api.Laid
	for left := b.free; left != (cells{}); {
		var p piece
		p, rank = b.begin(left, rank)
		out = append(out, p.laid)
		left = left.without(p.cells)
	}
	return out
}

// begin returns the piece with which the tiling of a number begins, and the
// number of its rest among those that begin with this piece.
func (b bench) begin(left cells, rank api.Num) (piece, api.Num) {
	var out piece
	c := b.newCounter(left)
	for _, p := range b.choices(left) {
		out = p
		n := c.after(left, p).num()
		if isLess(rank, n) {
			break
		}
		rank, _ = exact.Sub(rank, n)
	}
	return out, rank
}

// rank returns the number of a tiling: how many begin as it does, and go on with
// an earlier choice.
func (b bench) rank(tiling []api.Laid) tally {
	var sum tally
	left := b.free
	for _, laid := range tiling {
		choices := b.choices(left)
		i := choice(choices, laid)
		c := b.newCounter(left)
		for _, earlier := range choices[:i] {
			sum = sum.plus(c.after(left, earlier))
		}
		left = left.without(choices[i].cells)
	}
	return sum
}
