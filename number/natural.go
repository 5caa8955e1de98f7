package number

import "math/bits"

// A natural is a number that is 0 or more, in words of 64 bits, the least
// significant one first, the last one not 0. Naturals are not changed once
// they are made, so they may share memory with one another.
type natural []uint64

const (
	wordBits = 64
	// Below this many words the products of parts cost more than they save.
	fewWords = 40
)

func word(w uint64) natural {
	if w == 0 {
		return nil
	}
	return natural{w}
}

func (a natural) isOne() bool { return len(a) == 1 && a[0] == 1 }

func (a natural) trimmed() natural {
	n := len(a)
	for n > 0 && a[n-1] == 0 {
		n--
	}
	return a[:n]
}

func (a natural) bits() int {
	if len(a) == 0 {
		return 0
	}
	return wordBits*(len(a)-1) + bits.Len64(a[len(a)-1])
}

func (a natural) compare(b natural) int {
	if len(a) != len(b) {
		if len(a) < len(b) {
			return -1
		}
		return 1
	}
	for i := len(a) - 1; i >= 0; i-- {
		if a[i] != b[i] {
			if a[i] < b[i] {
				return -1
			}
			return 1
		}
	}
	return 0
}

func (a natural) plus(b natural) natural {
	if len(a) < len(b) {
		a, b = b, a
	}
	out := make(natural, len(a)+1)
	copy(out, a)
	addTo(out, b)
	return out.trimmed()
}

// minus returns a - b, which must be 0 or more.
func (a natural) minus(b natural) natural {
	out := make(natural, len(a))
	copy(out, a)
	subtractFrom(out, b)
	return out.trimmed()
}

func (a natural) times(b natural) natural {
	if len(a) < len(b) {
		a, b = b, a
	}
	if len(b) == 0 {
		return nil
	}
	out := make(natural, len(a)+len(b))
	switch {
	case len(b) < fewWords:
		for i, w := range b {
			out[i+len(a)] = addProduct(out[i:i+len(a)], a, w)
		}
	case len(b) <= (len(a)+1)/2:
		for i := 0; i < len(a); i += len(b) {
			addTo(out[i:], a[i:min(i+len(b), len(a))].times(b))
		}
	default:
		multiplyParts(out, a, b)
	}
	return out.trimmed()
}

// multiplyParts writes a·b into out, which is 0, by three products of halves
// (Karatsuba). b has more than half as many words as a, and no more than a.
func multiplyParts(out, a, b natural) {
	half := (len(a) + 1) / 2
	low := a[:half].times(b[:half])
	high := a[half:].times(b[half:])
	middle := a[:half].plus(a[half:]).times(b[:half].plus(b[half:]))
	copy(out, low)
	copy(out[2*half:], high)
	addTo(out[half:], middle.minus(low).minus(high))
}

// over returns the quotient, rounded down, and the remainder. b is not 0.
func (a natural) over(b natural) (natural, natural) {
	if a.compare(b) < 0 {
		return nil, a
	}
	if len(b) == 1 {
		out := make(natural, len(a))
		copy(out, a)
		rest := divideBy(out, b[0])
		return out.trimmed(), word(rest)
	}
	// The leading bit of the divisor is moved to the top of its word: then
	// its two leading words tell a word of the quotient, up to one.
	shift := uint(bits.LeadingZeros64(b[len(b)-1]))
	divisor := b.shiftedLeft(shift)[:len(b)]
	rest := a.shiftedLeft(shift)
	out := make(natural, len(a)-len(b)+1)
	for i := len(out) - 1; i >= 0; i-- {
		out[i] = divideStep(rest[i:i+len(b)+1], divisor)
	}
	return out.trimmed(), rest[:len(b)].shiftedRight(shift)
}

// divideStep returns the word of the quotient of rest, which has one word
// more than the divisor, and leaves the remainder in rest.
func divideStep(rest, divisor natural) uint64 {
	n := len(divisor)
	top, next := divisor[n-1], divisor[n-2]
	guess := ^uint64(0)
	if rest[n] < top {
		var left uint64
		guess, left = bits.Div64(rest[n], rest[n-1], top)
		high, low := bits.Mul64(guess, next)
		for high > left || high == left && low > rest[n-2] {
			guess--
			var carry uint64
			left, carry = bits.Add64(left, top, 0)
			if carry != 0 {
				break
			}
			low, carry = bits.Sub64(low, next, 0)
			high -= carry
		}
	}
	borrow := subtractProduct(rest[:n], divisor, guess)
	high, below := bits.Sub64(rest[n], borrow, 0)
	for below != 0 {
		guess--
		var carry uint64
		high, carry = bits.Add64(high, addTo(rest[:n], divisor), 0)
		below -= carry
	}
	rest[n] = high
	return guess
}

// shiftedLeft returns a·2^shift, shift below 64, with one word more than a.
func (a natural) shiftedLeft(shift uint) natural {
	out := make(natural, len(a)+1)
	for i, w := range a {
		out[i] |= w << shift
		out[i+1] = w >> (wordBits - shift)
	}
	return out
}

// shiftedRight returns a/2^shift, rounded down, shift below 64.
func (a natural) shiftedRight(shift uint) natural {
	out := make(natural, len(a))
	for i, w := range a {
		out[i] = w >> shift
		if i > 0 {
			out[i-1] |= w << (wordBits - shift)
		}
	}
	return out.trimmed()
}

// addTo adds b to out, which has no fewer words, and returns the carry.
func addTo(out, b natural) uint64 {
	var carry uint64
	for i, w := range b {
		out[i], carry = bits.Add64(out[i], w, carry)
	}
	for i := len(b); carry != 0 && i < len(out); i++ {
		out[i], carry = bits.Add64(out[i], 0, carry)
	}
	return carry
}

// subtractFrom subtracts b from out, which is no less.
func subtractFrom(out, b natural) {
	var borrow uint64
	for i, w := range b {
		out[i], borrow = bits.Sub64(out[i], w, borrow)
	}
	for i := len(b); borrow != 0 && i < len(out); i++ {
		out[i], borrow = bits.Sub64(out[i], 0, borrow)
	}
}

// addProduct adds a·w to out, which has as many words as a, and returns what
// belongs into the next word.
func addProduct(out, a natural, w uint64) uint64 {
	out = out[:len(a)]
	var carry uint64
	for i, x := range a {
		high, low := bits.Mul64(x, w)
		low, over := bits.Add64(low, carry, 0)
		high += over
		out[i], over = bits.Add64(out[i], low, 0)
		carry = high + over
	}
	return carry
}

// subtractProduct subtracts a·w from out, which has as many words as a, and
// returns what is to be subtracted from the next word.
func subtractProduct(out, a natural, w uint64) uint64 {
	out = out[:len(a)]
	var borrow uint64
	for i, x := range a {
		high, low := bits.Mul64(x, w)
		low, over := bits.Add64(low, borrow, 0)
		high += over
		out[i], over = bits.Sub64(out[i], low, 0)
		borrow = high + over
	}
	return borrow
}

// multiplyAdd replaces out by out·w + carry, and returns what belongs into
// the next word.
func multiplyAdd(out natural, w, carry uint64) uint64 {
	for i, x := range out {
		high, low := bits.Mul64(x, w)
		var over uint64
		out[i], over = bits.Add64(low, carry, 0)
		carry = high + over
	}
	return carry
}

// divideBy divides out by a word that is not 0, and returns the remainder.
func divideBy(out natural, w uint64) uint64 {
	var rest uint64
	for i := len(out) - 1; i >= 0; i-- {
		out[i], rest = bits.Div64(rest, out[i], w)
	}
	return rest
}

// rest returns the remainder of the division by a word that is not 0.
func (a natural) rest(w uint64) uint64 {
	var rest uint64
	for i := len(a) - 1; i >= 0; i-- {
		_, rest = bits.Div64(rest, a[i], w)
	}
	return rest
}
