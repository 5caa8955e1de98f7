package exact

import "cmp"

// An integer is a natural with a sign; 0 is not negative.
type integer struct {
	negative bool
	size     natural
}

func newInteger(negative bool, size natural) integer {
	return integer{negative && len(size) > 0, size}
}

func whole(size natural) integer { return integer{false, size} }

func fromInt(n int) integer {
	if n < 0 {
		// The least int has no counterpart above 0, but as a word it has.
		return integer{true, word(-uint64(n))}
	}
	return whole(word(uint64(n)))
}

func (a integer) isZero() bool { return len(a.size) == 0 }

func (a integer) sign() int {
	switch {
	case a.isZero():
		return 0
	case a.negative:
		return -1
	}
	return 1
}

func (a integer) negated() integer { return newInteger(!a.negative, a.size) }

func (a integer) compare(b integer) int {
	if a.negative != b.negative {
		return cmp.Compare(a.sign(), b.sign())
	}
	if a.negative {
		return b.size.compare(a.size)
	}
	return a.size.compare(b.size)
}

func (a integer) plus(b integer) integer {
	if a.negative == b.negative {
		return newInteger(a.negative, a.size.plus(b.size))
	}
	if a.size.compare(b.size) < 0 {
		a, b = b, a
	}
	return newInteger(a.negative, a.size.minus(b.size))
}

func (a integer) minus(b integer) integer { return a.plus(b.negated()) }

func (a integer) times(b integer) integer {
	return newInteger(a.negative != b.negative, a.size.times(b.size))
}

// over returns the greatest integer that is not above a/b, and the remainder,
// which has the sign of b. b is not 0.
func (a integer) over(b integer) (integer, integer) {
	q, r := a.size.over(b.size)
	if a.negative == b.negative {
		return whole(q), newInteger(b.negative, r)
	}
	if len(r) > 0 {
		q, r = q.plus(word(1)), b.size.minus(r)
	}
	return newInteger(true, q), newInteger(b.negative, r)
}

// dividedBy returns a/b, where b divides a.
func (a integer) dividedBy(b integer) integer {
	q, _ := a.size.over(b.size)
	return newInteger(a.negative != b.negative, q)
}
