// Package linear is the rows of linear programs as integers: what the layers
// that work with such programs share.
package linear

import (
	"cracknel/api"
	"cracknel/number"
)

// A Form is a linear function of variables, and a right side, multiplied by a
// factor that makes integers of them.
type Form struct {
	Coef   []number.Integer
	Right  number.Integer
	Factor number.Integer // above 0
}

// NewForm returns the form of valid Nums.
func NewForm(coef []api.Num, right api.Num) Form {
	values := append(number.Values(coef), number.Value(right))
	whole, factor := number.Scaled(values)
	return Form{Coef: whole[:len(coef)], Right: whole[len(coef)], Factor: factor}
}

// A Row is a form that is at most, at least or equal to its right side.
type Row struct {
	Form
	Kind int
}

// Rows returns the rows of a program whose Nums are valid.
func Rows(p api.Program) []Row {
	out := make([]Row, len(p.Rows))
	for k, r := range p.Rows {
		out[k] = Row{NewForm(r.Coef, r.Right), r.Kind}
	}
	return out
}

// Gap returns by how much the row is above its right side at x/scale, times
// factor and scale. If the scale is 0, x is a direction, and the gap says how
// fast the row grows in it.
func (r Row) Gap(x []number.Integer, scale number.Integer) number.Integer {
	return number.Dot(r.Coef, x).Minus(r.Right.Times(scale))
}

// Allows reports whether the row holds where its gap has that sign.
func (r Row) Allows(sign int) bool {
	return sign == 0 || sign < 0 && r.Kind == api.AtMost || sign > 0 && r.Kind == api.AtLeast
}

// HaveSigns reports whether multipliers, one for each row, have the right signs.
func HaveSigns(rows []Row, y []number.Ratio) bool {
	for k, r := range rows {
		if r.Kind == api.AtMost && y[k].Sign() > 0 || r.Kind == api.AtLeast && y[k].Sign() < 0 {
			return false
		}
	}
	return true
}

// Combined returns the sum of rows with that many variables, each one multiplied
// by its multiplier.
func Combined(rows []Row, y []number.Ratio, variables int) Form {
	quotients := make([]number.Ratio, len(y))
	for k, r := range rows {
		quotients[k] = y[k].Over(number.Whole(r.Factor))
	}
	weights, scale := number.Scaled(quotients)
	out := Form{Coef: make([]number.Integer, variables), Factor: scale}
	for k, r := range rows {
		for i, x := range r.Coef {
			out.Coef[i] = out.Coef[i].Plus(x.Times(weights[k]))
		}
		out.Right = out.Right.Plus(r.Right.Times(weights[k]))
	}
	return out
}
