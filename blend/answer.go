package blend

import (
	"cracknel/api"
	"cracknel/linear"
	"cracknel/number"
)

// An answer is an api.Answer with its numbers read.
type answer struct {
	kind      int
	x, y, ray []number.Ratio
	value     number.Ratio
}

// write returns an answer: ErrRange if one of its numbers has too many digits.
func write(a answer) (api.Answer, api.Errno) {
	var out [4][]api.Num
	for i, values := range [4][]number.Ratio{a.x, a.y, a.ray, {a.value}} {
		var e api.Errno
		if out[i], e = texts(values); e != api.OK {
			return api.Answer{}, e
		}
	}
	written := api.Answer{Kind: a.kind, X: out[0], Y: out[1], Ray: out[2]}
	if a.kind == api.Optimal {
		written.Value = out[3][0]
	}
	return written, api.OK
}

// optimum returns the answer of a settled tableau that does not depend on the
// bound.
func (t *tableau) optimum() answer {
	out := answer{kind: api.Optimal, value: t.value(), y: t.weights(t.costRow(), t.cost.Factor)}
	for i := range t.cost.Coef {
		_, near := t.amountOf(i)
		out.x = append(out.x, near)
	}
	return out
}

// refusal returns the answer of a tableau with the row of a variable that cannot
// be what it is to be.
func (t *tableau) refusal(row int) answer {
	return answer{kind: api.Infeasible, y: t.weights(row, number.Of(t.sign(row)))}
}

// descent returns the answer of a settled tableau whose cost depends on the
// bound: a point for some bound, and where it moves as the bound grows.
func (t *tableau) descent() answer {
	out := answer{kind: api.Unbounded}
	bound := t.leastBound()
	for i := range t.cost.Coef {
		far, near := t.amountOf(i)
		out.x = append(out.x, near.Plus(far.Times(bound)))
		out.ray = append(out.ray, far)
	}
	return out
}

// leastBound returns a bound that is great enough for all variables to be 0 or
// more.
func (t *tableau) leastBound() number.Ratio {
	var out number.Ratio
	for row, variable := range t.Basis {
		far, near := t.amount(row)
		if variable == t.costVariable() || far.IsZero() {
			continue
		}
		if least := number.New(near.Negated(), far); least.Compare(out) > 0 {
			out = least
		}
	}
	return out
}

// isUnbounded reports whether the cost depends on the bound.
func (t *tableau) isUnbounded() bool { return !t.Cells[t.costRow()][farColumn].IsZero() }

// value returns the cost, if it does not depend on the bound.
func (t *tableau) value() number.Ratio {
	_, near := t.amount(t.costRow())
	return number.New(near, t.scale(t.costRow()).Times(t.cost.Factor))
}

// amountOf returns the value of a variable of the program: its multiple of the
// bound, and the rest.
func (t *tableau) amountOf(variable int) (far, near number.Ratio) {
	row := t.places[variable].row
	if row < 0 {
		return number.Ratio{}, number.Ratio{}
	}
	times, rest := t.amount(row)
	return number.New(times, t.scale(row)), number.New(rest, t.scale(row))
}

// weights returns how the variable of a row depends on each row of the program,
// divided by a number: these are multipliers.
func (t *tableau) weights(row int, by number.Integer) []number.Ratio {
	out := make([]number.Ratio, len(t.rows))
	for k, r := range t.rows {
		var weight number.Integer
		switch at := t.places[t.gap(k)]; at.row {
		case -1:
			weight = t.Cells[row][at.column]
		case row:
			weight = t.Cells[row][linear.ScaleColumn].Negated()
		}
		if r.Kind == api.AtMost {
			weight = weight.Negated()
		}
		out[k] = number.New(weight.Times(r.Factor), t.Cells[row][linear.ScaleColumn].Times(by))
	}
	return out
}
