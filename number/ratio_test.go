package number

import (
	"math/big"
	"math/rand"
	"strings"
	"testing"

	"cracknel/api"
)

func toRat(a Ratio) *big.Rat {
	return new(big.Rat).SetFrac(toBigInteger(a.Num()), toBigInteger(a.Den()))
}

func someRatio(r *rand.Rand) Ratio {
	for {
		if den := someInteger(r); !den.IsZero() {
			return New(someInteger(r), den)
		}
	}
}

func expectRatio(t *testing.T, what string, got Ratio, want *big.Rat) {
	t.Helper()
	isNormal := isNormal(got.Num()) && isNormal(got.Den()) && got.Den().Sign() > 0 && Divisor(got.Num(), got.Den()).IsOne()
	if !isNormal || toRat(got).Cmp(want) != 0 {
		t.Fatalf("%s = %v, want %v", what, got, want)
	}
}

func TestRatios(t *testing.T) {
	r := rand.New(rand.NewSource(1))
	for range 50000 {
		a, b := someRatio(r), someRatio(r)
		if r.Intn(50) == 0 {
			b = Ratio{}
		}
		x, y := toRat(a), toRat(b)
		expectRatio(t, "Plus", a.Plus(b), new(big.Rat).Add(x, y))
		expectRatio(t, "Minus", a.Minus(b), new(big.Rat).Sub(x, y))
		expectRatio(t, "Minus", b.Minus(a), new(big.Rat).Sub(y, x))
		expectRatio(t, "Times", a.Times(b), new(big.Rat).Mul(x, y))
		if !b.IsZero() {
			expectRatio(t, "Over", a.Over(b), new(big.Rat).Quo(x, y))
		}
		if a.Compare(b) != x.Cmp(y) || b.Compare(a) != y.Cmp(x) || a.Sign() != x.Sign() || a.IsInteger() != x.IsInt() {
			t.Fatalf("%v and %v are compared wrongly", x, y)
		}
		floor := new(big.Int).Div(x.Num(), x.Denom())
		if toBigInteger(a.Floor()).Cmp(floor) != 0 {
			t.Fatalf("Floor of %v = %v", x, a.Floor())
		}
	}
}

func TestTexts(t *testing.T) {
	r := rand.New(rand.NewSource(2))
	for range 20000 {
		a := someRatio(r)
		text, ok := a.Text()
		if !ok || string(text) != toRat(a).RatString() {
			t.Fatalf("Text of %v = %q", toRat(a), text)
		}
		back, ok := Parse(text)
		if !ok {
			t.Fatalf("Parse(%q) is refused", text)
		}
		expectRatio(t, "Parse", back, toRat(a))
	}
	if text, ok := (Ratio{}).Text(); !ok || text != "0" {
		t.Errorf("Text of the zero value = %q, %t", text, ok)
	}
}

func TestTextsOfManyDigits(t *testing.T) {
	most, _ := Parse(api.Num(strings.Repeat("9", api.MaxDigits)))
	over := most.Plus(Whole(Of(1)))
	inverse := func(a Ratio) Ratio { return New(a.Den(), a.Num()) }
	for _, a := range []Ratio{most, most.Negated(), inverse(most), inverse(most).Negated()} {
		if text, ok := a.Text(); !ok || string(text) != toRat(a).RatString() {
			t.Errorf("Text of %d digits = %.20q.., %t", api.MaxDigits, text, ok)
		}
	}
	for _, a := range []Ratio{over, over.Negated(), inverse(over), over.Times(over)} {
		if text, ok := a.Text(); ok || text != "" {
			t.Errorf("Text of more digits = %.20q.., %t", text, ok)
		}
	}
}

func TestScaledAndDot(t *testing.T) {
	r := rand.New(rand.NewSource(3))
	for range 2000 {
		v := make([]Ratio, r.Intn(6))
		for i := range v {
			v[i] = someRatio(r)
			if r.Intn(5) == 0 {
				v[i] = Ratio{}
			}
		}
		whole, common := Scaled(v)
		least := big.NewInt(1)
		for _, x := range v {
			den := toRat(x).Denom()
			least.Div(new(big.Int).Mul(least, den), new(big.Int).GCD(nil, nil, least, den))
		}
		expectInteger(t, "the factor", common, least)
		want := new(big.Rat)
		for i, x := range whole {
			expectRatio(t, "Scaled", New(x, common), toRat(v[i]))
			want.Add(want, new(big.Rat).Mul(toRat(v[i]), toRat(v[i])))
		}
		expectRatio(t, "Dot", New(Dot(whole, whole), common.Times(common)), want)
	}
}
