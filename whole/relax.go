package whole

import (
	"slices"

	"cracknel/api"
	"cracknel/blend"
	"cracknel/number"
)

// mostChosen is how many rows of a problem blend has room for beside the sides of
// a box.
const mostChosen = api.MaxLimits - 2*api.MaxWhole

// An outlook is what the linear program of a box says of its solutions.
type outlook struct {
	box
	isEmpty    bool           // there is none
	y          []api.Num      // multipliers that prove it, or else the bound
	bound      number.Integer // none costs less
	x          []number.Ratio // the cheapest point, of several the lexicographically least one
	isSolution bool           // x is one
	tight      []int          // rows that hold at x with equality
	serial     int            // what a search has numbered it
}

// point returns x, which is a solution.
func (o *outlook) point() []int {
	out := make([]int, len(o.x))
	for i, x := range o.x {
		out[i], _ = x.Num().Int()
	}
	return out
}

// relax solves the linear program of a box. It begins with the chosen rows and
// adds a row that the cheapest point violates until there is none: in a box few
// of them matter, and blend does not have room for all.
func (q problem) relax(b box, chosen []int) *outlook {
	if y := q.refusal(b); y != nil {
		return &outlook{box: b, isEmpty: true, y: y}
	}
	for {
		a := q.answer(b, chosen)
		if a.Kind == api.Infeasible {
			return &outlook{box: b, isEmpty: true, y: q.spread(chosen, a.Y...)}
		}
		x := number.Values(a.X)
		point, scale := number.Scaled(x)
		worst := q.worst(point, scale)
		if worst < 0 || len(chosen) == mostChosen {
			// Without room x may violate rows; all else is true nevertheless.
			return &outlook{
				box: b, y: q.spread(chosen, a.Y...), bound: ceiling(a.Value),
				x: x, isSolution: worst < 0 && scale.IsOne(), tight: q.tight(chosen, point, scale),
			}
		}
		chosen = append(slices.Clip(chosen), worst)
	}
}

// answer returns the answer to the linear program of a box with the chosen rows.
func (q problem) answer(b box, chosen []int) api.Answer {
	p := api.Program{Cost: q.Cost}
	for _, k := range chosen {
		p.Rows = append(p.Rows, q.Rows[k])
	}
	p.Rows = append(p.Rows, b.sides()...)
	// There is no error: the program is valid, and its answer consists of
	// quotients of determinants of at most MaxWhole + 1 rows, in which no number
	// has more than 300 digits.
	a, _ := blend.Solve(p)
	return a
}

// tight returns those of the chosen rows that hold at x/scale with equality.
func (q problem) tight(chosen []int, x []number.Integer, scale number.Integer) []int {
	var out []int
	for _, k := range chosen {
		if q.rows[k].Gap(x, scale).IsZero() {
			out = append(out, k)
		}
	}
	return out
}

// ceiling returns the least integer that is not below a Num.
func ceiling(x api.Num) number.Integer { return number.Value(x).Negated().Floor().Negated() }

// cut returns the variable at which the box is to be split, and its greatest
// value in the first part. Neither part contains x, if that is no integer point.
func (o *outlook) cut() (variable, at int) {
	variable = slices.IndexFunc(o.x, func(x number.Ratio) bool { return !x.IsInteger() })
	if variable < 0 {
		variable = o.widest()
		return variable, (o.low[variable] + o.high[variable]) / 2
	}
	at, _ = o.x[variable].Floor().Int()
	return variable, at
}
