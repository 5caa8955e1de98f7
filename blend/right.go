package blend

import (
	"cracknel/api"
	"cracknel/linear"
	"cracknel/number"
)

// Right reports whether an answer to a program is right.
func Right(p api.Program, a api.Answer) (bool, api.Errno) {
	q, e := read(p, numsIn(a)...)
	if e != api.OK {
		return false, e
	}
	return q.hasFields(a) && q.isRight(a), api.OK
}

// numsIn returns all Nums of an answer. An empty Value counts only where there
// is to be one.
func numsIn(a api.Answer) []api.Num {
	var out []api.Num
	for _, part := range [3][]api.Num{a.X, a.Y, a.Ray} {
		out = append(out, part...)
	}
	if a.Kind == api.Optimal || a.Value != "" {
		out = append(out, a.Value)
	}
	return out
}

// hasFields reports whether an answer has the fields of its kind, of the right
// lengths, and no others.
func (p program) hasFields(a api.Answer) bool {
	variables, rows := len(p.cost.Coef), len(p.rows)
	switch a.Kind {
	case api.Optimal:
		return len(a.X) == variables && len(a.Y) == rows && len(a.Ray) == 0
	case api.Infeasible:
		return len(a.X) == 0 && len(a.Y) == rows && len(a.Ray) == 0 && a.Value == ""
	case api.Unbounded:
		return len(a.X) == variables && len(a.Y) == 0 && len(a.Ray) == variables && a.Value == ""
	}
	return false
}

// isRight reports whether an answer with the fields of its kind is right.
func (p program) isRight(a api.Answer) bool {
	switch a.Kind {
	case api.Optimal:
		return p.isBest(number.Values(a.X), number.Values(a.Y), number.Value(a.Value))
	case api.Infeasible:
		return p.isRefused(number.Values(a.Y))
	}
	x, scale := number.Scaled(number.Values(a.X))
	ray, _ := number.Scaled(number.Values(a.Ray))
	return p.holds(x, scale) && p.holds(ray, number.Integer{}) && number.Dot(p.cost.Coef, ray).Sign() < 0
}

// isBest reports whether x is feasible, y proves that no point costs less than
// the value, and x costs no more.
func (p program) isBest(x, y []number.Ratio, value number.Ratio) bool {
	point, scale := number.Scaled(x)
	sum := linear.Combined(p.rows, y, len(p.cost.Coef))
	return p.holds(point, scale) && linear.HaveSigns(p.rows, y) && isAtMost(sum, p.cost) &&
		isQuotient(value, number.Dot(p.cost.Coef, point), p.cost.Factor.Times(scale)) &&
		isQuotient(value, sum.Right, sum.Factor)
}

// isRefused reports whether y proves that no point is feasible.
func (p program) isRefused(y []number.Ratio) bool {
	sum := linear.Combined(p.rows, y, len(p.cost.Coef))
	nothing := linear.Form{Coef: make([]number.Integer, len(sum.Coef)), Factor: number.Of(1)}
	return linear.HaveSigns(p.rows, y) && isAtMost(sum, nothing) && sum.Right.Sign() > 0
}

// isQuotient reports whether a value is num/den; den is above 0.
func isQuotient(value number.Ratio, num, den number.Integer) bool {
	return value.Num().Times(den).Compare(num.Times(value.Den())) == 0
}

// holds reports whether x/scale is a feasible point. If the scale is 0, x is a
// direction, and the question is whether one can go in it forever.
func (p program) holds(x []number.Integer, scale number.Integer) bool {
	for _, value := range x {
		if value.Sign() < 0 {
			return false
		}
	}
	for _, r := range p.rows {
		if !r.Allows(r.Gap(x, scale).Sign()) {
			return false
		}
	}
	return true
}

// isAtMost reports whether no coefficient of a form is above that of another one.
func isAtMost(f, other linear.Form) bool {
	for i, x := range f.Coef {
		if x.Times(other.Factor).Compare(other.Coef[i].Times(f.Factor)) > 0 {
			return false
		}
	}
	return true
}
