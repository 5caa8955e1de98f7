package blend

import (
	"cracknel/api"
	"cracknel/number"
)

// Right reports whether an answer to a program is right.
func Right(p api.Program, a api.Answer) (bool, api.Errno) {
	q, e := read(p, numsIn(a)...)
	if e != api.OK {
		return false, e
	}
	return q.hasFields(a) && q.isRight(a), api.OK
}

// numsIn returns all Nums of an answer. An empty Value counts only where there
// is to be one.
func numsIn(a api.Answer) []api.Num {
	var out []api.Num
	for _, part := range [3][]api.Num{a.X, a.Y, a.Ray} {
		out = append(out, part...)
	}
	if a.Kind == api.Optimal || a.Value != "" {
		out = append(out, a.Value)
	}
	return out
}

// hasFields reports whether an answer has the fields of its kind, of the right
// lengths, and no others.
func (p program) hasFields(a api.Answer) bool {
	variables, rows := len(p.cost.coef), len(p.rows)
	switch a.Kind {
	case api.Optimal:
		return len(a.X) == variables && len(a.Y) == rows && len(a.Ray) == 0
	case api.Infeasible:
		return len(a.X) == 0 && len(a.Y) == rows && len(a.Ray) == 0 && a.Value == ""
	case api.Unbounded:
		return len(a.X) == variables && len(a.Y) == 0 && len(a.Ray) == variables && a.Value == ""
	}
	return false
}

// isRight reports whether an answer with the fields of its kind is right.
func (p program) isRight(a api.Answer) bool {
	switch a.Kind {
	case api.Optimal:
		return p.isBest(ratios(a.X), ratios(a.Y), ratio(a.Value))
	case api.Infeasible:
		return p.isRefused(ratios(a.Y))
	}
	x, scale := number.Scaled(ratios(a.X))
	ray, _ := number.Scaled(ratios(a.Ray))
	return p.holds(x, scale) && p.holds(ray, number.Integer{}) && number.Dot(p.cost.coef, ray).Sign() < 0
}

// isBest reports whether x is feasible, y proves that no point costs less than
// the value, and x costs no more.
func (p program) isBest(x, y []number.Ratio, value number.Ratio) bool {
	point, scale := number.Scaled(x)
	sum := p.combined(y)
	return p.holds(point, scale) && p.haveSigns(y) && sum.isAtMost(p.cost) &&
		isQuotient(value, number.Dot(p.cost.coef, point), p.cost.factor.Times(scale)) &&
		isQuotient(value, sum.right, sum.factor)
}

// isRefused reports whether y proves that no point is feasible.
func (p program) isRefused(y []number.Ratio) bool {
	sum := p.combined(y)
	nothing := form{coef: make([]number.Integer, len(sum.coef)), factor: number.Of(1)}
	return p.haveSigns(y) && sum.isAtMost(nothing) && sum.right.Sign() > 0
}

// isQuotient reports whether a value is num/den; den is above 0.
func isQuotient(value number.Ratio, num, den number.Integer) bool {
	return value.Num().Times(den).Compare(num.Times(value.Den())) == 0
}

// holds reports whether x/scale is a feasible point. If the scale is 0, x is a
// direction, and the question is whether one can go in it forever.
func (p program) holds(x []number.Integer, scale number.Integer) bool {
	for _, value := range x {
		if value.Sign() < 0 {
			return false
		}
	}
	for _, r := range p.rows {
		order := number.Dot(r.coef, x).Compare(r.right.Times(scale))
		if order < 0 && r.kind != api.AtMost || order > 0 && r.kind != api.AtLeast {
			return false
		}
	}
	return true
}

// haveSigns reports whether multipliers have the right signs.
func (p program) haveSigns(y []number.Ratio) bool {
	for k, r := range p.rows {
		if r.kind == api.AtMost && y[k].Sign() > 0 || r.kind == api.AtLeast && y[k].Sign() < 0 {
			return false
		}
	}
	return true
}

// combined returns the sum of the rows, multiplied by multipliers.
func (p program) combined(y []number.Ratio) form {
	quotients := make([]number.Ratio, len(y))
	for k, r := range p.rows {
		quotients[k] = y[k].Over(number.Whole(r.factor))
	}
	weights, scale := number.Scaled(quotients)
	out := form{coef: make([]number.Integer, len(p.cost.coef)), factor: scale}
	for k, r := range p.rows {
		for i, x := range r.coef {
			out.coef[i] = out.coef[i].Plus(x.Times(weights[k]))
		}
		out.right = out.right.Plus(r.right.Times(weights[k]))
	}
	return out
}

// isAtMost reports whether no coefficient is above that of another form.
func (f form) isAtMost(other form) bool {
	for i, x := range f.coef {
		if x.Times(other.factor).Compare(other.coef[i].Times(f.factor)) > 0 {
			return false
		}
	}
	return true
}
