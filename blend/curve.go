package blend

import (
	"iter"

	"cracknel/api"
	"cracknel/exact"
	"cracknel/linear"
	"cracknel/number"
)

// A touch is a point of a curve, and the slope of a line through it that is
// nowhere above the curve.
type touch struct {
	at, value, slope number.Ratio
}

// on returns the value of the line at a parameter.
func (a touch) on(at number.Ratio) number.Ratio {
	return a.value.Plus(a.slope.Times(at.Minus(a.at)))
}

// meets returns where the line meets one with another slope.
func (a touch) meets(b touch) number.Ratio {
	return a.at.Plus(b.on(a.at).Minus(a.value).Over(a.slope.Minus(b.slope)))
}

// Curve returns the corners of the least cost as a function of the right side of
// a row.
func Curve(p api.Program, row int, low, high api.Num) ([]api.Corner, api.Errno) {
	q, e := read(p, low, high)
	if e != api.OK {
		return nil, e
	}
	order, _ := exact.Cmp(low, high) // They are valid, as read has found.
	if row < 0 || row >= len(q.rows) || !areShort(low, high) || order > 0 {
		return nil, api.ErrArg
	}
	t := newTableau(q.varied(row))
	first, ok := t.touchAt(number.Value(low))
	if !ok {
		return nil, api.ErrNone
	}
	last, ok := t.touchAt(number.Value(high))
	if !ok {
		return nil, api.ErrNone
	}
	return collect(t.corners(first, last))
}

// varied returns the program with the parameter as the right side of a row.
func (p program) varied(k int) program {
	rows, growth := make([]linear.Row, len(p.rows)), make([]number.Integer, len(p.rows))
	copy(rows, p.rows)
	rows[k].Right, growth[k] = number.Integer{}, rows[k].Factor
	return program{p.cost, rows, growth}
}

// touchAt settles the tableau at a parameter, or returns false if there is no
// best point.
func (t *tableau) touchAt(at number.Ratio) (touch, bool) {
	t.at = at
	if t.settle() >= 0 || t.isUnbounded() {
		return touch{}, false
	}
	cells := t.Cells[t.costRow()]
	slope := number.New(cells[timesColumn], cells[linear.ScaleColumn].Times(t.cost.Factor))
	return touch{at, t.value(), slope}, true
}

// between yields points between two touches, by rising parameter: between
// neighbours of all of them the curve is straight. It returns false if it is to
// stop.
//
// The curve is nowhere below the lines of the touches. Where these meet, it
// either is on both of them, so that they are all of it, or else touches a line
// of its own.
func (t *tableau) between(a, b touch, yield func(touch) bool) bool {
	if a.slope.Compare(b.slope) == 0 {
		return true
	}
	at := a.meets(b)
	if at.Compare(a.at) == 0 || at.Compare(b.at) == 0 {
		return true
	}
	middle, _ := t.touchAt(at)
	if middle.value.Compare(a.on(at)) == 0 {
		return yield(middle)
	}
	return t.between(a, middle, yield) && yield(middle) && t.between(middle, b, yield)
}

// points yields both ends of a curve, and the points between them.
func (t *tableau) points(first, last touch) iter.Seq[touch] {
	return func(yield func(touch) bool) {
		if !yield(first) || first.at.Compare(last.at) == 0 {
			return
		}
		if t.between(first, last, yield) {
			yield(last)
		}
	}
}

// corners yields the points at which the curve is not straight, and both ends.
func (t *tableau) corners(first, last touch) iter.Seq[touch] {
	return func(yield func(touch) bool) {
		var known []touch // the last corner, and a point that may be one
		for next := range t.points(first, last) {
			if len(known) == 2 && !isStraight(known[0], known[1], next) {
				if !yield(known[0]) {
					return
				}
				known = known[1:]
			}
			known = append(known[:min(len(known), 1)], next)
		}
		for _, corner := range known {
			if !yield(corner) {
				return
			}
		}
	}
}

// isStraight reports whether three points are on one line.
func isStraight(a, b, c touch) bool {
	left := b.value.Minus(a.value).Times(c.at.Minus(b.at))
	right := c.value.Minus(b.value).Times(b.at.Minus(a.at))
	return left.Compare(right) == 0
}

// collect returns corners: ErrRange if a number of them has too many digits.
func collect(corners iter.Seq[touch]) ([]api.Corner, api.Errno) {
	var out []api.Corner
	for c := range corners {
		numbers, e := texts([]number.Ratio{c.at, c.value})
		if e != api.OK {
			return nil, e
		}
		out = append(out, api.Corner{At: numbers[0], Value: numbers[1]})
	}
	return out, api.OK
}
