// Package exact is layer 1: rational numbers of any size, normal forms of
// integer matrices, and integer solutions of linear equations with
// certificates. See shared/doc/01-exact.md.
package exact

import "cracknel/api"

// greatestInt is the greatest absolute value that Int returns.
const greatestInt = 1 << 62

// Check returns ErrForm unless a Num is valid.
func Check(x api.Num) api.Errno {
	_, e := read(x)
	return e
}

// Make returns a quotient.
func Make(num, den int) (api.Num, api.Errno) {
	if den == 0 {
		return "", api.ErrZero
	}
	return write(fromInteger(fromInt(num)).over(fromInteger(fromInt(den))))
}

// Add returns a sum.
func Add(a, b api.Num) (api.Num, api.Errno) {
	return apply(func(x []ratio) (ratio, api.Errno) { return x[0].plus(x[1]), api.OK }, a, b)
}

// Sub returns a difference.
func Sub(a, b api.Num) (api.Num, api.Errno) {
	return apply(func(x []ratio) (ratio, api.Errno) { return x[0].minus(x[1]), api.OK }, a, b)
}

// Mul returns a product.
func Mul(a, b api.Num) (api.Num, api.Errno) {
	return apply(func(x []ratio) (ratio, api.Errno) { return x[0].times(x[1]), api.OK }, a, b)
}

// Div returns a quotient.
func Div(a, b api.Num) (api.Num, api.Errno) {
	return apply(func(x []ratio) (ratio, api.Errno) {
		if x[1].isZero() {
			return ratio{}, api.ErrZero
		}
		return x[0].over(x[1]), api.OK
	}, a, b)
}

// Cmp compares two Nums.
func Cmp(a, b api.Num) (int, api.Errno) {
	x, e := read(a, b)
	if e != api.OK {
		return 0, e
	}
	return x[0].compare(x[1]), api.OK
}

// Floor returns the greatest integer that is not above a Num.
func Floor(x api.Num) (api.Num, api.Errno) {
	return apply(func(x []ratio) (ratio, api.Errno) { return fromInteger(x[0].floor()), api.OK }, x)
}

// Int returns the value of an integer.
func Int(x api.Num) (int, api.Errno) {
	values, e := read(x)
	if e != api.OK || !values[0].isInteger() {
		return 0, api.ErrForm
	}
	n := values[0].num
	if n.size.compare(word(greatestInt)) > 0 {
		return 0, api.ErrRange
	}
	if n.isZero() {
		return 0, api.OK
	}
	return n.sign() * int(n.size[0]), api.OK
}

// apply reads Nums, and writes what an operation makes of their values.
func apply(operation func([]ratio) (ratio, api.Errno), nums ...api.Num) (api.Num, api.Errno) {
	x, e := read(nums...)
	if e != api.OK {
		return "", e
	}
	value, e := operation(x)
	if e != api.OK {
		return "", e
	}
	return write(value)
}

// read reads any number of Nums: ErrForm if one of them is not valid.
func read(nums ...api.Num) ([]ratio, api.Errno) {
	values := make([]ratio, 0, len(nums))
	for _, x := range nums {
		value, ok := parse(x)
		if !ok {
			return nil, api.ErrForm
		}
		values = append(values, value)
	}
	return values, api.OK
}
