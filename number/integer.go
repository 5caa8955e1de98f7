// Package number is the arithmetic below the layers: integers and rational
// numbers of any size. Only their texts have a limit, that of Nums.
package number

import (
	"cmp"
	"math"
	"math/bits"
)

// An Integer is a whole number of any size. The zero value is 0. Integers are
// not changed once they are made, so they may share memory with one another.
//
// Most numbers are small: those below 2^63 need no memory of their own.
type Integer struct {
	small int64   // the number or, if it has a size, its sign: -1 or 1
	size  natural // its absolute value, if that is 2^63 or more
}

// Of returns an int as an Integer.
func Of(n int) Integer {
	if n == math.MinInt {
		// It has no counterpart above 0, but as a word it has.
		return Integer{-1, word(1 << 63)}
	}
	return Integer{small: int64(n)}
}

func newInteger(negative bool, size natural) Integer {
	if len(size) > 1 || len(size) == 1 && size[0] > math.MaxInt64 {
		if negative {
			return Integer{-1, size}
		}
		return Integer{1, size}
	}
	if len(size) == 0 {
		return Integer{}
	}
	if negative {
		return Integer{small: -int64(size[0])}
	}
	return Integer{small: int64(size[0])}
}

// newWords returns the Integer with that sign and these two words.
func newWords(negative bool, high, low uint64) Integer {
	if high != 0 {
		return newInteger(negative, natural{low, high})
	}
	if low > math.MaxInt64 {
		return newInteger(negative, natural{low})
	}
	if negative {
		return Integer{small: -int64(low)}
	}
	return Integer{small: int64(low)}
}

func (a Integer) isSmall() bool { return a.size == nil }

// magnitude returns the absolute value of a.
func (a Integer) magnitude() natural {
	if a.isSmall() {
		return word(a.smallSize())
	}
	return a.size
}

// smallSize returns the absolute value of a, which is small.
func (a Integer) smallSize() uint64 {
	if a.small < 0 {
		return uint64(-a.small)
	}
	return uint64(a.small)
}

// IsZero reports whether a is 0.
func (a Integer) IsZero() bool { return a.small == 0 }

// IsOne reports whether a is 1.
func (a Integer) IsOne() bool { return a.small == 1 && a.isSmall() }

// Sign returns -1, 0 or 1.
func (a Integer) Sign() int { return cmp.Compare(a.small, 0) }

// Size returns the absolute value of a.
func (a Integer) Size() Integer {
	if a.small < 0 {
		return a.Negated()
	}
	return a
}

// Negated returns -a.
func (a Integer) Negated() Integer { return Integer{-a.small, a.size} }

// Int returns a as an int, or false if it is below -2^62 or above 2^62.
func (a Integer) Int() (int, bool) {
	if !a.isSmall() || a.smallSize() > 1<<62 {
		return 0, false
	}
	return int(a.small), true
}

// Compare returns -1, 0 or 1, as a is less than, equal to or greater than b.
func (a Integer) Compare(b Integer) int {
	switch {
	case a.isSmall() && b.isSmall():
		return cmp.Compare(a.small, b.small)
	case a.Sign() != b.Sign():
		return cmp.Compare(a.Sign(), b.Sign())
	case a.small < 0:
		return b.magnitude().compare(a.magnitude())
	}
	return a.magnitude().compare(b.magnitude())
}

// Plus returns a + b.
func (a Integer) Plus(b Integer) Integer {
	if a.isSmall() && b.isSmall() {
		sum := a.small + b.small
		isOver := (a.small^sum)&(b.small^sum) < 0
		if !isOver && sum != math.MinInt64 {
			return Integer{small: sum}
		}
	}
	if b.IsZero() {
		return a
	}
	x, y := a.magnitude(), b.magnitude()
	if (a.small < 0) == (b.small < 0) {
		return newInteger(a.small < 0, x.plus(y))
	}
	if x.compare(y) < 0 {
		return newInteger(b.small < 0, y.minus(x))
	}
	return newInteger(a.small < 0, x.minus(y))
}

// Minus returns a - b.
func (a Integer) Minus(b Integer) Integer { return a.Plus(b.Negated()) }

// Times returns a·b.
func (a Integer) Times(b Integer) Integer {
	isNegative := (a.small < 0) != (b.small < 0)
	if a.isSmall() && b.isSmall() {
		high, low := bits.Mul64(a.smallSize(), b.smallSize())
		return newWords(isNegative, high, low)
	}
	if b.IsOne() {
		return a
	}
	return newInteger(isNegative, a.magnitude().times(b.magnitude()))
}

// power returns a to the power of n, which is 0 or more.
func (a Integer) power(n int) Integer {
	out := Of(1)
	for ; n > 0; n /= 2 {
		if n%2 == 1 {
			out = out.Times(a)
		}
		if n > 1 {
			a = a.Times(a)
		}
	}
	return out
}

// Over returns the greatest integer that is not above a/b, and the remainder,
// which has the sign of b. b is not 0.
func (a Integer) Over(b Integer) (Integer, Integer) {
	isNegative := (a.small < 0) != (b.small < 0)
	if a.isSmall() && b.isSmall() {
		q, r := a.small/b.small, a.small%b.small
		if r != 0 && isNegative {
			q, r = q-1, r+b.small
		}
		return Integer{small: q}, Integer{small: r}
	}
	divisor := b.magnitude()
	q, r := a.magnitude().over(divisor)
	if isNegative && len(r) > 0 {
		q, r = q.plus(word(1)), divisor.minus(r)
	}
	return newInteger(isNegative, q), newInteger(b.small < 0, r)
}

// DividedBy returns a/b, where b divides a and is not 0.
func (a Integer) DividedBy(b Integer) Integer {
	if a.isSmall() && b.isSmall() {
		return Integer{small: a.small / b.small}
	}
	if b.IsOne() {
		return a
	}
	q, _ := a.magnitude().over(b.magnitude())
	return newInteger((a.small < 0) != (b.small < 0), q)
}

// Cross returns (a·b - c·d)/e, where e divides the difference and is not 0. It
// is the step of an elimination without fractions.
func Cross(a, b, c, d, e Integer) Integer {
	if a.isSmall() && b.isSmall() && c.isSmall() && d.isSmall() && e.isSmall() {
		return smallCross(a, b, c, d, e)
	}
	return a.Times(b).Minus(c.Times(d)).DividedBy(e)
}

// smallCross does it with words: two of them hold the difference, because the
// products of small numbers are below 2^126.
func smallCross(a, b, c, d, e Integer) Integer {
	high, low := bits.Mul64(a.smallSize(), b.smallSize())
	otherHigh, otherLow := bits.Mul64(c.smallSize(), d.smallSize())
	isNegative := (a.small < 0) != (b.small < 0)
	if isNegative != ((c.small < 0) != (d.small < 0)) {
		var carry uint64
		low, carry = bits.Add64(low, otherLow, 0)
		high, _ = bits.Add64(high, otherHigh, carry)
	} else {
		var borrow uint64
		low, borrow = bits.Sub64(low, otherLow, 0)
		high, borrow = bits.Sub64(high, otherHigh, borrow)
		if borrow != 0 {
			isNegative = !isNegative
			low, borrow = bits.Sub64(0, low, 0)
			high, _ = bits.Sub64(0, high, borrow)
		}
	}
	divisor := e.smallSize()
	top := high / divisor
	bottom, _ := bits.Div64(high%divisor, low, divisor)
	return newWords(isNegative != (e.small < 0), top, bottom)
}

// Divisor returns the greatest common divisor of a and b: 0 if both are 0.
func Divisor(a, b Integer) Integer {
	if a.isSmall() && b.isSmall() {
		return newWords(false, 0, wordDivisor(a.smallSize(), b.smallSize()))
	}
	return newInteger(false, a.magnitude().divisor(b.magnitude()))
}

// Factors returns the greatest common divisor g of two numbers that are not 0,
// and numbers s and t with s·a + t·b = g.
func Factors(a, b Integer) (g, s, t Integer) {
	size, s, t := factors(a.magnitude(), b.magnitude())
	if a.small < 0 {
		s = s.Negated()
	}
	if b.small < 0 {
		t = t.Negated()
	}
	return newInteger(false, size), s, t
}
