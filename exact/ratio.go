package exact

import (
	"strings"

	"cracknel/api"
)

// A ratio is a rational number in lowest terms; den is 1 or more.
type ratio struct {
	num integer
	den natural
}

// newRatio returns num/den in lowest terms; den is not 0.
func newRatio(num integer, den natural) ratio {
	g := num.size.divisor(den)
	if g.isOne() {
		return ratio{num, den}
	}
	return ratio{num.dividedBy(whole(g)), whole(den).dividedBy(whole(g)).size}
}

func fromInteger(n integer) ratio { return ratio{n, word(1)} }

func (a ratio) isZero() bool { return a.num.isZero() }

func (a ratio) isInteger() bool { return a.den.isOne() }

func (a ratio) negated() ratio { return ratio{a.num.negated(), a.den} }

// plus looks for common divisors where they can be: what the denominators
// have in common is all that numerator and denominator of the sum may share.
func (a ratio) plus(b ratio) ratio {
	g := a.den.divisor(b.den)
	left := whole(a.den).dividedBy(whole(g))
	right := whole(b.den).dividedBy(whole(g))
	num := a.num.times(right).plus(b.num.times(left))
	reduced := newRatio(num, g)
	return ratio{reduced.num, reduced.den.times(left.size).times(right.size)}
}

func (a ratio) minus(b ratio) ratio { return a.plus(b.negated()) }

// times divides crosswise before it multiplies, while the numbers are small.
func (a ratio) times(b ratio) ratio {
	left, right := newRatio(a.num, b.den), newRatio(b.num, a.den)
	return ratio{left.num.times(right.num), left.den.times(right.den)}
}

// over returns a/b; b is not 0.
func (a ratio) over(b ratio) ratio {
	return a.times(ratio{newInteger(b.num.negative, b.den), b.num.size})
}

func (a ratio) compare(b ratio) int {
	return a.num.times(whole(b.den)).compare(b.num.times(whole(a.den)))
}

// floor returns the greatest integer that is not above a.
func (a ratio) floor() integer {
	q, _ := a.num.over(whole(a.den))
	return q
}

// parse reads a Num, or returns false if it is not valid.
func parse(x api.Num) (ratio, bool) {
	top, bottom, isFraction := strings.Cut(string(x), "/")
	digits, negative := strings.CutPrefix(top, "-")
	num, ok := parseNatural(digits)
	if !ok || negative && len(num) == 0 {
		return ratio{}, false
	}
	if !isFraction {
		return fromInteger(newInteger(negative, num)), true
	}
	den, ok := parseNatural(bottom)
	if !ok || len(den) == 0 || den.isOne() || !num.divisor(den).isOne() {
		return ratio{}, false
	}
	return ratio{newInteger(negative, num), den}, true
}

// write returns the Num of a ratio: ErrRange if it has too many digits.
func write(x ratio) (api.Num, api.Errno) {
	text, ok := x.num.size.text()
	if !ok {
		return "", api.ErrRange
	}
	if x.num.negative {
		text = "-" + text
	}
	if x.isInteger() {
		return api.Num(text), api.OK
	}
	bottom, ok := x.den.text()
	if !ok {
		return "", api.ErrRange
	}
	return api.Num(text + "/" + bottom), api.OK
}
