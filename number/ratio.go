package number

import (
	"strings"

	"cracknel/api"
)

// A Ratio is a rational number in lowest terms. The zero value is 0.
type Ratio struct {
	num Integer
	den Integer // 1 or more; 0 stands for 1, so that the zero value is 0
}

// New returns num/den; den is not 0.
func New(num, den Integer) Ratio {
	if den.Sign() < 0 {
		num, den = num.Negated(), den.Negated()
	}
	if g := Divisor(num, den); !g.IsOne() {
		num, den = num.DividedBy(g), den.DividedBy(g)
	}
	return Ratio{num, den}
}

// Whole returns an Integer as a Ratio.
func Whole(n Integer) Ratio { return Ratio{n, Of(1)} }

// Num returns the numerator.
func (a Ratio) Num() Integer { return a.num }

// Den returns the denominator, which is 1 or more.
func (a Ratio) Den() Integer {
	if a.den.IsZero() {
		return Of(1)
	}
	return a.den
}

// IsZero reports whether a is 0.
func (a Ratio) IsZero() bool { return a.num.IsZero() }

// IsInteger reports whether the denominator is 1.
func (a Ratio) IsInteger() bool { return a.Den().IsOne() }

// Sign returns -1, 0 or 1.
func (a Ratio) Sign() int { return a.num.Sign() }

// Negated returns -a.
func (a Ratio) Negated() Ratio { return Ratio{a.num.Negated(), a.den} }

// Plus returns a + b. It looks for common divisors where they can be: what the
// denominators have in common is all that numerator and denominator of the sum
// may share.
func (a Ratio) Plus(b Ratio) Ratio {
	g := Divisor(a.Den(), b.Den())
	left, right := a.Den().DividedBy(g), b.Den().DividedBy(g)
	reduced := New(a.num.Times(right).Plus(b.num.Times(left)), g)
	return Ratio{reduced.num, reduced.den.Times(left).Times(right)}
}

// Minus returns a - b.
func (a Ratio) Minus(b Ratio) Ratio { return a.Plus(b.Negated()) }

// Times returns a·b. It divides crosswise before it multiplies, while the
// numbers are small.
func (a Ratio) Times(b Ratio) Ratio {
	left, right := New(a.num, b.Den()), New(b.num, a.Den())
	return Ratio{left.num.Times(right.num), left.den.Times(right.den)}
}

// Over returns a/b; b is not 0.
func (a Ratio) Over(b Ratio) Ratio {
	top, bottom := New(a.num, b.num), New(b.Den(), a.Den())
	return Ratio{top.num.Times(bottom.num), top.den.Times(bottom.den)}
}

// Power returns a to the power of n: 1 if n is 0, whatever a is. If n is below 0, a
// is not 0.
func (a Ratio) Power(n int) Ratio {
	if n < 0 {
		a, n = New(a.Den(), a.num), -n
	}
	// Powers of numbers without a common divisor have none, either.
	return Ratio{a.num.power(n), a.Den().power(n)}
}

// Compare returns -1, 0 or 1, as a is less than, equal to or greater than b.
func (a Ratio) Compare(b Ratio) int {
	return a.num.Times(b.Den()).Compare(b.num.Times(a.Den()))
}

// Floor returns the greatest integer that is not above a.
func (a Ratio) Floor() Integer {
	q, _ := a.num.Over(a.Den())
	return q
}

// Parse reads a Num, or returns false if it is not valid.
func Parse(x api.Num) (Ratio, bool) {
	top, bottom, isFraction := strings.Cut(string(x), "/")
	digits, negative := strings.CutPrefix(top, "-")
	size, ok := parseNatural(digits)
	if !ok || negative && len(size) == 0 {
		return Ratio{}, false
	}
	num := newInteger(negative, size)
	if !isFraction {
		return Whole(num), true
	}
	size, ok = parseNatural(bottom)
	if !ok {
		return Ratio{}, false
	}
	den := newInteger(false, size)
	if den.IsZero() || den.IsOne() || !Divisor(num, den).IsOne() {
		return Ratio{}, false
	}
	return Ratio{num, den}, true
}

// Value returns a valid Num as a Ratio.
func Value(x api.Num) Ratio {
	out, _ := Parse(x)
	return out
}

// IsShort reports whether numerator and denominator have at most MaxDigits
// digits: it does not write them, but where it must.
func (a Ratio) IsShort() bool { return a.num.isShort() && a.den.isShort() }

// Text returns a Ratio as a Num, or false if its numerator or its denominator
// has more than MaxDigits digits.
func (a Ratio) Text() (api.Num, bool) {
	text, ok := a.num.text()
	if !ok || a.IsInteger() {
		return api.Num(text), ok
	}
	bottom, ok := a.den.text()
	if !ok {
		return "", false
	}
	return api.Num(text + "/" + bottom), true
}
