package recipe

import (
	"cracknel/api"
	"cracknel/exact"
	"cracknel/number"
)

// The limits that only this layer has.
const (
	mostExponent    = 1000
	mostScaleDigits = 40
)

func isExponent(n int) bool { return -mostExponent <= n && n <= mostExponent }

// isQuantity reports whether q is one for so many units.
func isQuantity(q api.Qty, units int) bool {
	if len(q.Dim) != units || exact.Check(q.Value) != api.OK {
		return false
	}
	for _, n := range q.Dim {
		if !isExponent(n) {
			return false
		}
	}
	return true
}

func areQuantities(list []api.Qty, units int) bool {
	for _, q := range list {
		if !isQuantity(q, units) {
			return false
		}
	}
	return true
}

// isScale reports whether Nums are a scale for so many units.
func isScale(scale []api.Num, units int) bool {
	if len(scale) != units {
		return false
	}
	for _, x := range scale {
		if number.Digits(x) > mostScaleDigits || exact.Check(x) != api.OK || number.Value(x).Sign() <= 0 {
			return false
		}
	}
	return true
}

// resultDim returns for each unit the exponent of the result for arguments, or
// false if there is none for some unit.
func (c choices) resultDim(args []api.Qty) ([]number.Integer, bool) {
	var out []number.Integer
	for unit := range c.fixed {
		var exponents []int
		for _, q := range args {
			exponents = append(exponents, q.Dim[unit])
		}
		exponent, ok := c.result(unit, exponents)
		if !ok {
			return nil, false
		}
		out = append(out, exponent)
	}
	return out, true
}

// newQuantity returns a result: ErrRange if one of its exponents is too great. Its
// value is short, as an evaluation's values are.
func newQuantity(value number.Ratio, dim []number.Integer) (api.Qty, api.Errno) {
	var out api.Qty
	for _, x := range dim {
		n, ok := x.Int()
		if !ok || !isExponent(n) {
			return api.Qty{}, api.ErrRange
		}
		out.Dim = append(out.Dim, n)
	}
	out.Value, _ = value.Text()
	return out, api.OK
}
