package number

import "math/bits"

// A turn is what some steps of Euclid's algorithm do at once: it leads from
// (x, y) to (a·x - b·y, d·y - c·x) or, if the number of steps is odd, to
// (b·y - a·x, c·x - d·y).
type turn struct {
	a, b, c, d uint64
	odd        bool
}

// step returns the turn with one step more, whose quotient is q.
func (t turn) step(q uint64) turn {
	return turn{t.c, t.d, t.a + q*t.c, t.b + q*t.d, !t.odd}
}

// leadingTurn returns the steps that can be told from the leading words of
// two naturals, x no less than y (Lehmer). The condition of Collins holds for
// each of them: no digit further down can change their quotients.
func leadingTurn(x, y uint64) turn {
	t := turn{a: 1, d: 1}
	for y != 0 {
		next := t.step(x / y)
		x, y = y, x%y
		if y < next.d || x-y < next.b+next.d {
			return t
		}
		t = next
	}
	return t
}

// wholeTurn returns all steps from (x, y) on, and the greatest common divisor.
func wholeTurn(x, y uint64) (turn, uint64) {
	t := turn{a: 1, d: 1}
	for y != 0 {
		t = t.step(x / y)
		x, y = y, x%y
	}
	return t, x
}

// apply returns what the turn leads to, in the memory of two other slices that
// have room for one word more than x, which is no less than y.
func (t turn) apply(x, y, first, second natural) (natural, natural) {
	first, second = first[:len(x)+1], second[:len(x)+1]
	if t.odd {
		return difference(first, y, t.b, x, t.a), difference(second, x, t.c, y, t.d)
	}
	return difference(first, x, t.a, y, t.b), difference(second, y, t.d, x, t.c)
}

// applyToFactors does the same with factors, without their signs: these
// alternate from step to step, so that all differences become sums.
func (t turn) applyToFactors(x, y natural) (natural, natural) {
	return sum(x, t.a, y, t.b), sum(x, t.c, y, t.d)
}

// sum returns x·a + y·b.
func sum(x natural, a uint64, y natural, b uint64) natural {
	out := make(natural, max(len(x), len(y))+2)
	addTo(out[len(x):], word(addProduct(out, x, a)))
	addTo(out[len(y):], word(addProduct(out, y, b)))
	return out.trimmed()
}

// difference returns x·a - y·b, which must be 0 or more, in the memory of out.
func difference(out, x natural, a uint64, y natural, b uint64) natural {
	clear(out)
	out[len(x)] = addProduct(out, x, a)
	subtractFrom(out[len(y):], word(subtractProduct(out, y, b)))
	return out.trimmed()
}

// seenTurn returns a turn for x and y, x no less than y, that does at least
// one step, or false if their leading words tell none.
func seenTurn(x, y natural) (turn, bool) {
	n := len(x)
	if len(y) < 2 || len(y) < n-1 {
		return turn{}, false
	}
	shift := uint(bits.LeadingZeros64(x[n-1]))
	high := x[n-1]<<shift | x[n-2]>>(wordBits-shift)
	low := y[n-2] >> (wordBits - shift)
	if len(y) == n {
		low |= y[n-1] << shift
	}
	t := leadingTurn(high, low)
	return t, t.b != 0
}

// divisor returns the greatest common divisor.
func (a natural) divisor(b natural) natural {
	if a.compare(b) < 0 {
		a, b = b, a
	}
	if len(b) > 1 {
		a, b = descend(a, b)
	}
	if len(b) == 0 {
		return a
	}
	return word(wordDivisor(b[0], a.rest(b[0])))
}

// wordDivisor returns the greatest common divisor of two words.
func wordDivisor(x, y uint64) uint64 {
	for y != 0 {
		x, y = y, x%y
	}
	return x
}

// descend does steps of Euclid's algorithm until the lesser number has one
// word at most. There may be thousands of them: they share their memory.
func descend(a, b natural) (natural, natural) {
	size := len(a) + 1
	x, y := append(make(natural, 0, size), a...), append(make(natural, 0, size), b...)
	first, second := make(natural, size), make(natural, size)
	for len(y) > 1 {
		if t, ok := seenTurn(x, y); ok {
			nextX, nextY := t.apply(x, y, first, second)
			first, second = x, y
			x, y = nextX, nextY
		} else {
			_, rest := x.over(y)
			x, y = y, append(x[:0], rest...)
		}
	}
	return x, y
}

// factors returns the greatest common divisor g of two naturals that are not
// 0, and numbers s and t with s·a + t·b = g.
func factors(a, b natural) (natural, Integer, Integer) {
	if a.compare(b) < 0 {
		g, t, s := factors(b, a)
		return g, s, t
	}
	x, y := a, b
	s, next := word(1), natural(nil)
	odd := false
	for len(y) > 0 {
		if len(x) == 1 {
			t, g := wholeTurn(x[0], y[0])
			x, y = word(g), nil
			s, next = t.applyToFactors(s, next)
			odd = odd != t.odd
		} else if t, ok := seenTurn(x, y); ok {
			x, y = t.apply(x, y, make(natural, len(x)+1), make(natural, len(x)+1))
			s, next = t.applyToFactors(s, next)
			odd = odd != t.odd
		} else {
			q, rest := x.over(y)
			x, y = y, rest
			s, next = next, s.plus(q.times(next))
			odd = !odd
		}
	}
	first := newInteger(odd, s)
	rest := newInteger(false, x).Minus(first.Times(newInteger(false, a)))
	return x, first, rest.DividedBy(newInteger(false, b))
}
