package number

import (
	"math/big"
	"math/rand"
	"testing"
)

// The tests of this package compare its arithmetic with that of math/big, mostly
// for words that make carries, borrows and wrong guesses.

func toBig(a natural) *big.Int {
	out := new(big.Int)
	for i := len(a) - 1; i >= 0; i-- {
		out.Lsh(out, 64)
		out.Or(out, new(big.Int).SetUint64(a[i]))
	}
	return out
}

func toBigInteger(a Integer) *big.Int {
	if a.isSmall() {
		return big.NewInt(a.small)
	}
	return new(big.Int).Mul(toBig(a.size), big.NewInt(a.small))
}

func isTrimmed(a natural) bool { return len(a) == 0 || a[len(a)-1] != 0 }

func someNatural(r *rand.Rand, words int) natural {
	edges := []uint64{0, 1, 2, 1<<63 - 1, 1 << 63, 1<<63 + 1, ^uint64(0) - 1, ^uint64(0)}
	out := make(natural, words)
	for i := range out {
		if r.Intn(3) > 0 {
			out[i] = edges[r.Intn(len(edges))]
		} else {
			out[i] = r.Uint64()
		}
	}
	return out.trimmed()
}

func expectNatural(t *testing.T, what string, got natural, want *big.Int) {
	t.Helper()
	if !isTrimmed(got) || toBig(got).Cmp(want) != 0 {
		t.Fatalf("%s = %v, want %v", what, toBig(got), want)
	}
}

func checkNaturals(t *testing.T, a, b natural) {
	t.Helper()
	x, y := toBig(a), toBig(b)
	expectNatural(t, "plus", a.plus(b), new(big.Int).Add(x, y))
	expectNatural(t, "times", a.times(b), new(big.Int).Mul(x, y))
	if got, want := a.compare(b), x.Cmp(y); got != want {
		t.Fatalf("compare = %d, want %d", got, want)
	}
	if got, want := a.bits(), x.BitLen(); got != want {
		t.Fatalf("bits = %d, want %d", got, want)
	}
	if a.compare(b) >= 0 {
		expectNatural(t, "minus", a.minus(b), new(big.Int).Sub(x, y))
	}
	expectNatural(t, "divisor", a.divisor(b), new(big.Int).GCD(nil, nil, x, y))
	if len(b) > 0 {
		q, rest := a.over(b)
		wantQ, wantRest := new(big.Int).QuoRem(x, y, new(big.Int))
		expectNatural(t, "quotient", q, wantQ)
		expectNatural(t, "remainder", rest, wantRest)
	}
	if len(a) > 0 && len(b) > 0 {
		checkFactors(t, a, b)
	}
	if toBig(a).Cmp(x) != 0 || toBig(b).Cmp(y) != 0 {
		t.Fatal("an operand has changed")
	}
}

func checkFactors(t *testing.T, a, b natural) {
	t.Helper()
	g, s, u := factors(a, b)
	x, y := toBig(a), toBig(b)
	expectNatural(t, "factors", g, new(big.Int).GCD(nil, nil, x, y))
	sum := new(big.Int).Mul(x, toBigInteger(s))
	sum.Add(sum, new(big.Int).Mul(y, toBigInteger(u)))
	if sum.Cmp(toBig(g)) != 0 {
		t.Fatalf("factors of %v and %v: %v and %v", x, y, toBigInteger(s), toBigInteger(u))
	}
	if toBigInteger(s).CmpAbs(y) > 0 || toBigInteger(u).CmpAbs(x) > 0 {
		t.Fatalf("factors of %v and %v are larger than these", x, y)
	}
}

func TestNaturalsOfEdgeWords(t *testing.T) {
	r := rand.New(rand.NewSource(1))
	for range 60000 {
		checkNaturals(t, someNatural(r, r.Intn(7)), someNatural(r, r.Intn(7)))
	}
}

func TestLongNaturals(t *testing.T) {
	r := rand.New(rand.NewSource(2))
	for range 400 {
		checkNaturals(t, someNatural(r, r.Intn(300)), someNatural(r, r.Intn(300)))
	}
}

func TestCommonDivisors(t *testing.T) {
	r := rand.New(rand.NewSource(3))
	for range 2000 {
		g := someNatural(r, r.Intn(12))
		checkNaturals(t, g.times(someNatural(r, r.Intn(12))), g.times(someNatural(r, r.Intn(12))))
	}
}

// Numbers of Fibonacci make the most steps of Euclid's algorithm.
func TestFibonacciNumbers(t *testing.T) {
	a, b := word(1), word(1)
	for range 3000 {
		a, b = b, a.plus(b)
		if len(b)%3 == 0 {
			checkFactors(t, a, b)
			checkFactors(t, b, a)
			if g := a.divisor(b); !g.isOne() {
				t.Fatalf("divisor = %v", toBig(g))
			}
		}
	}
}

// A quotient word is guessed from two words of the divisor; here the guess is
// too great, and the divisor is added again.
func TestWrongGuess(t *testing.T) {
	top := uint64(1) << 63
	for _, b := range []natural{{1, 0, top}, {^uint64(0), 0, top}, {^uint64(0), ^uint64(0), top}, {0, 1, top}} {
		for _, a := range []natural{
			{0, 0, top, top - 1}, {0, ^uint64(0), top - 1, top - 1}, {3, 0, 0, top},
			{0, 0, 0, top, top - 1}, {^uint64(0), ^uint64(0), ^uint64(0), ^uint64(0), top - 1},
		} {
			checkNaturals(t, a, b)
		}
	}
}

func TestDecimals(t *testing.T) {
	r := rand.New(rand.NewSource(4))
	for range 3000 {
		a := someNatural(r, r.Intn(30))
		text, ok := a.text()
		if !ok || text != toBig(a).String() {
			t.Fatalf("text of %v = %q", toBig(a), text)
		}
		back, ok := parseNatural(text)
		if !ok || back.compare(a) != 0 || !isTrimmed(back) {
			t.Fatalf("parse of %q = %v", text, toBig(back))
		}
	}
	for _, s := range []string{"10000000000000000000", "9999999999999999999", "18446744073709551615", "18446744073709551616", "100000000000000000000000000000000000000", "10000000000000000000000000000000000000000000000000000000000"} {
		a, ok := parseNatural(s)
		if text, same := a.text(); !ok || !same || text != s {
			t.Errorf("%q is read and written as %q", s, text)
		}
	}
}
