package number

import "cracknel/api"

// Values returns valid Nums as Ratios.
func Values(nums []api.Num) []Ratio {
	out := make([]Ratio, len(nums))
	for i, x := range nums {
		out[i] = Value(x)
	}
	return out
}

// Dot returns the sum of the products of the elements of two slices of the
// same length.
func Dot(a, b []Integer) Integer {
	var out Integer
	for i, x := range a {
		if !x.IsZero() && !b[i].IsZero() {
			out = out.Plus(x.Times(b[i]))
		}
	}
	return out
}

// Scaled returns integers, and the least number by which all of them are to be
// divided to get the elements of v.
func Scaled(v []Ratio) ([]Integer, Integer) {
	common := Of(1)
	for _, x := range v {
		common = x.Den().DividedBy(Divisor(x.Den(), common)).Times(common)
	}
	out := make([]Integer, len(v))
	for i, x := range v {
		out[i] = x.num.Times(common.DividedBy(x.Den()))
	}
	return out, common
}

// Sum returns the sum of numbers. It adds sums of halves, so that most of the sums
// are short, if the numbers are.
func Sum(v []Ratio) Ratio {
	switch len(v) {
	case 0:
		return Ratio{}
	case 1:
		return v[0]
	}
	half := len(v) / 2
	return Sum(v[:half]).Plus(Sum(v[half:]))
}
