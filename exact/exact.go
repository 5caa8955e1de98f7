// Package exact is layer 1: rational numbers of any size, normal forms of
// integer matrices, and integer solutions of linear equations with
// certificates. See shared/doc/01-exact.md.
package exact

import (
	"cracknel/api"
	"cracknel/number"
)

// Check returns ErrForm unless a Num is valid.
func Check(x api.Num) api.Errno {
	_, e := read(x)
	return e
}

// Make returns a quotient.
func Make(num, den int) (api.Num, api.Errno) {
	if den == 0 {
		return "", api.ErrZero
	}
	return write(number.Whole(number.Of(num)).Over(number.Whole(number.Of(den))))
}

// Add returns a sum.
func Add(a, b api.Num) (api.Num, api.Errno) {
	return apply(func(x []number.Ratio) (number.Ratio, api.Errno) { return x[0].Plus(x[1]), api.OK }, a, b)
}

// Sub returns a difference.
func Sub(a, b api.Num) (api.Num, api.Errno) {
	return apply(func(x []number.Ratio) (number.Ratio, api.Errno) { return x[0].Minus(x[1]), api.OK }, a, b)
}

// Mul returns a product.
func Mul(a, b api.Num) (api.Num, api.Errno) {
	return apply(func(x []number.Ratio) (number.Ratio, api.Errno) { return x[0].Times(x[1]), api.OK }, a, b)
}

// Div returns a quotient.
func Div(a, b api.Num) (api.Num, api.Errno) {
	return apply(func(x []number.Ratio) (number.Ratio, api.Errno) {
		if x[1].IsZero() {
			return number.Ratio{}, api.ErrZero
		}
		return x[0].Over(x[1]), api.OK
	}, a, b)
}

// Cmp compares two Nums.
func Cmp(a, b api.Num) (int, api.Errno) {
	x, e := read(a, b)
	if e != api.OK {
		return 0, e
	}
	return x[0].Compare(x[1]), api.OK
}

// Floor returns the greatest integer that is not above a Num.
func Floor(x api.Num) (api.Num, api.Errno) {
	return apply(func(x []number.Ratio) (number.Ratio, api.Errno) { return number.Whole(x[0].Floor()), api.OK }, x)
}

// Int returns the value of an integer.
func Int(x api.Num) (int, api.Errno) {
	values, e := read(x)
	if e != api.OK || !values[0].IsInteger() {
		return 0, api.ErrForm
	}
	n, ok := values[0].Num().Int()
	if !ok {
		return 0, api.ErrRange
	}
	return n, api.OK
}

// apply reads Nums, and writes what an operation makes of their values.
func apply(operation func([]number.Ratio) (number.Ratio, api.Errno), nums ...api.Num) (api.Num, api.Errno) {
	x, e := read(nums...)
	if e != api.OK {
		return "", e
	}
	value, e := operation(x)
	if e != api.OK {
		return "", e
	}
	return write(value)
}

// write returns the Num of a ratio: ErrRange if it has too many digits.
func write(x number.Ratio) (api.Num, api.Errno) {
	text, ok := x.Text()
	if !ok {
		return "", api.ErrRange
	}
	return text, api.OK
}

// read reads any number of Nums: ErrForm if one of them is not valid.
func read(nums ...api.Num) ([]number.Ratio, api.Errno) {
	values := make([]number.Ratio, 0, len(nums))
	for _, x := range nums {
		value, ok := number.Parse(x)
		if !ok {
			return nil, api.ErrForm
		}
		values = append(values, value)
	}
	return values, api.OK
}
