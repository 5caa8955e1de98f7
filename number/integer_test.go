package number

import (
	"math"
	"math/big"
	"math/rand"
	"testing"
)

// someInteger returns mostly numbers about 0, 2^31, 2^62, 2^63 and 2^64.
func someInteger(r *rand.Rand) Integer {
	size := someNatural(r, r.Intn(4))
	switch r.Intn(4) {
	case 0:
		size = word(uint64(r.Intn(20)))
	case 1:
		size = word(1<<uint(r.Intn(64)) + uint64(r.Intn(5)) - 2)
	}
	return newInteger(r.Intn(2) == 0, size)
}

// isNormal reports whether a number has the one form that its value allows.
func isNormal(a Integer) bool {
	if a.isSmall() {
		return a.small != math.MinInt64
	}
	isLarge := len(a.size) > 1 || len(a.size) == 1 && a.size[0] > math.MaxInt64
	return isLarge && isTrimmed(a.size) && (a.small == 1 || a.small == -1)
}

func expectInteger(t *testing.T, what string, got Integer, want *big.Int) {
	t.Helper()
	if !isNormal(got) || toBigInteger(got).Cmp(want) != 0 {
		t.Fatalf("%s = %v, want %v", what, got, want)
	}
}

func checkIntegers(t *testing.T, a, b Integer) {
	t.Helper()
	x, y := toBigInteger(a), toBigInteger(b)
	expectInteger(t, "Plus", a.Plus(b), new(big.Int).Add(x, y))
	expectInteger(t, "Minus", a.Minus(b), new(big.Int).Sub(x, y))
	expectInteger(t, "Times", a.Times(b), new(big.Int).Mul(x, y))
	expectInteger(t, "Negated", a.Negated(), new(big.Int).Neg(x))
	expectInteger(t, "Divisor", Divisor(a, b), new(big.Int).GCD(nil, nil, new(big.Int).Abs(x), new(big.Int).Abs(y)))
	if a.Compare(b) != x.Cmp(y) || a.Sign() != x.Sign() || a.IsZero() != (x.Sign() == 0) || a.IsOne() != (x.Cmp(big.NewInt(1)) == 0) {
		t.Fatalf("%v and %v are compared wrongly", x, y)
	}
	if b.IsZero() {
		return
	}
	q, rest := a.Over(b)
	wantRest := new(big.Int).Mod(x, new(big.Int).Abs(y))
	if wantRest.Sign() != 0 && y.Sign() < 0 {
		wantRest.Add(wantRest, y)
	}
	expectInteger(t, "remainder", rest, wantRest)
	expectInteger(t, "quotient", q, new(big.Int).Quo(new(big.Int).Sub(x, wantRest), y))
	expectInteger(t, "DividedBy", a.Times(b).DividedBy(b), x)
	if !a.IsZero() {
		g, s, u := Factors(a, b)
		sum := new(big.Int).Mul(x, toBigInteger(s))
		sum.Add(sum, new(big.Int).Mul(y, toBigInteger(u)))
		expectInteger(t, "Factors", g, sum)
		expectInteger(t, "Factors", g, toBigInteger(Divisor(a, b)))
	}
}

func TestIntegers(t *testing.T) {
	r := rand.New(rand.NewSource(1))
	for range 200000 {
		checkIntegers(t, someInteger(r), someInteger(r))
	}
}

func TestCross(t *testing.T) {
	r := rand.New(rand.NewSource(2))
	for range 200000 {
		a, b, e := someInteger(r), someInteger(r), someInteger(r)
		c, d := someInteger(r), someInteger(r)
		if e.IsZero() {
			continue
		}
		// Of a·b and c·d at least one and so both are multiples of e.
		switch r.Intn(3) {
		case 0:
			a, d = a.Times(e), d.Times(e)
		case 1:
			c, d = Of(r.Intn(3)-1).Times(e), Of(1)
			b = b.Times(e)
		case 2:
			e = Of(1 - 2*r.Intn(2))
		}
		want := new(big.Int).Mul(toBigInteger(a), toBigInteger(b))
		want.Sub(want, new(big.Int).Mul(toBigInteger(c), toBigInteger(d)))
		expectInteger(t, "Cross", Cross(a, b, c, d, e), want.Quo(want, toBigInteger(e)))
	}
}

// Differences of products of small numbers that are as large as they can be.
func TestCrossOfLargestSmallNumbers(t *testing.T) {
	top := []int{math.MaxInt64, -math.MaxInt64, math.MaxInt64 - 1, 1 << 62, -1 << 62, 1, -1, 0}
	for _, a := range top {
		for _, b := range top {
			for _, c := range top {
				for _, d := range top {
					want := new(big.Int).Mul(big.NewInt(int64(a)), big.NewInt(int64(b)))
					want.Sub(want, new(big.Int).Mul(big.NewInt(int64(c)), big.NewInt(int64(d))))
					expectInteger(t, "Cross", Cross(Of(a), Of(b), Of(c), Of(d), Of(-1)), new(big.Int).Neg(want))
					for _, e := range []int64{2, 3, 1 << 62, math.MaxInt64} {
						if q, rest := new(big.Int).QuoRem(want, big.NewInt(e), new(big.Int)); rest.Sign() == 0 {
							expectInteger(t, "Cross", Cross(Of(a), Of(b), Of(c), Of(d), Of(int(e))), q)
						}
					}
				}
			}
		}
	}
}

func TestInts(t *testing.T) {
	for _, n := range []int{0, 1, -1, 1<<62 - 1, 1 << 62, 1<<62 + 1, -1 << 62, -1<<62 - 1, math.MaxInt, math.MinInt, math.MinInt + 1} {
		a := Of(n)
		expectInteger(t, "Of", a, big.NewInt(int64(n)))
		back, ok := a.Int()
		if want := n >= -1<<62 && n <= 1<<62; ok != want || ok && back != n || !ok && back != 0 {
			t.Errorf("Int of %d = %d, %t", n, back, ok)
		}
	}
	if n, ok := Of(math.MaxInt).Times(Of(5)).Int(); ok || n != 0 {
		t.Errorf("Int of a large number = %d, %t", n, ok)
	}
}

func TestIntegersFloor(t *testing.T) {
	for a := -20; a <= 20; a++ {
		for b := -6; b <= 6; b++ {
			if b == 0 {
				continue
			}
			q, rest := Of(a).Over(Of(b))
			want := a / b
			if a%b != 0 && (a < 0) != (b < 0) {
				want--
			}
			if q.Compare(Of(want)) != 0 || rest.Compare(Of(a-b*want)) != 0 {
				t.Errorf("%d over %d = %v, %v", a, b, toBigInteger(q), toBigInteger(rest))
			}
		}
	}
}
