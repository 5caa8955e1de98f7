package number

import (
	"math/big"
	"math/rand"
	"strings"
	"testing"

	"cracknel/api"
)

func toRat(a Ratio) *big.Rat {
	return new(big.Rat).SetFrac(toBigInteger(a.Num()), toBigInteger(a.Den()))
}

func someRatio(r *rand.Rand) Ratio {
	for {
		if den := someInteger(r); !den.IsZero() {
			return New(someInteger(r), den)
		}
	}
}

func expectRatio(t *testing.T, what string, got Ratio, want *big.Rat) {
	t.Helper()
	isNormal := isNormal(got.Num()) && isNormal(got.Den()) && got.Den().Sign() > 0 && Divisor(got.Num(), got.Den()).IsOne()
	if !isNormal || toRat(got).Cmp(want) != 0 {
		t.Fatalf("%s = %v, want %v", what, got, want)
	}
}

func TestRatios(t *testing.T) {
	r := rand.New(rand.NewSource(1))
	for range 50000 {
		a, b := someRatio(r), someRatio(r)
		if r.Intn(50) == 0 {
			b = Ratio{}
		}
		x, y := toRat(a), toRat(b)
		expectRatio(t, "Plus", a.Plus(b), new(big.Rat).Add(x, y))
		expectRatio(t, "Minus", a.Minus(b), new(big.Rat).Sub(x, y))
		expectRatio(t, "Minus", b.Minus(a), new(big.Rat).Sub(y, x))
		expectRatio(t, "Times", a.Times(b), new(big.Rat).Mul(x, y))
		if !b.IsZero() {
			expectRatio(t, "Over", a.Over(b), new(big.Rat).Quo(x, y))
		}
		if a.Compare(b) != x.Cmp(y) || b.Compare(a) != y.Cmp(x) || a.Sign() != x.Sign() || a.IsInteger() != x.IsInt() {
			t.Fatalf("%v and %v are compared wrongly", x, y)
		}
		floor := new(big.Int).Div(x.Num(), x.Denom())
		if toBigInteger(a.Floor()).Cmp(floor) != 0 {
			t.Fatalf("Floor of %v = %v", x, a.Floor())
		}
	}
}

func TestTexts(t *testing.T) {
	r := rand.New(rand.NewSource(2))
	for range 20000 {
		a := someRatio(r)
		text, ok := a.Text()
		if !ok || string(text) != toRat(a).RatString() {
			t.Fatalf("Text of %v = %q", toRat(a), text)
		}
		back, ok := Parse(text)
		if !ok {
			t.Fatalf("Parse(%q) is refused", text)
		}
		expectRatio(t, "Parse", back, toRat(a))
	}
	if text, ok := (Ratio{}).Text(); !ok || text != "0" {
		t.Errorf("Text of the zero value = %q, %t", text, ok)
	}
}

func TestTextsOfManyDigits(t *testing.T) {
	most, _ := Parse(api.Num(strings.Repeat("9", api.MaxDigits)))
	over := most.Plus(Whole(Of(1)))
	inverse := func(a Ratio) Ratio { return New(a.Den(), a.Num()) }
	for _, a := range []Ratio{most, most.Negated(), inverse(most), inverse(most).Negated()} {
		if text, ok := a.Text(); !ok || string(text) != toRat(a).RatString() {
			t.Errorf("Text of %d digits = %.20q.., %t", api.MaxDigits, text, ok)
		}
	}
	for _, a := range []Ratio{over, over.Negated(), inverse(over), over.Times(over)} {
		if text, ok := a.Text(); ok || text != "" {
			t.Errorf("Text of more digits = %.20q.., %t", text, ok)
		}
	}
}

// A number is short exactly if it has a text, and Digits says how long that is.
func TestLengths(t *testing.T) {
	r := rand.New(rand.NewSource(4))
	for _, size := range []int{1, 5, 18, 19, 20, 40, api.MaxDigits - 1, api.MaxDigits} {
		for _, first := range []string{"1", "2", "5", "9"} {
			text := api.Num(first + strings.Repeat("0", size-1))
			for _, x := range []api.Num{text, "-" + text, text + "/7", "1/" + text, "-7/1" + api.Num(strings.Repeat("0", size-1))} {
				a, ok := Parse(x)
				if ok && (!a.IsShort() || Digits(x) != size) {
					t.Errorf("%.30s.. of %d digits: %t, %d", x, size, a.IsShort(), Digits(x))
				}
			}
		}
	}
	ten, _ := Parse(api.Num("1" + strings.Repeat("0", api.MaxDigits-1)))
	for range 200 {
		a := ten.Times(Whole(Of(r.Intn(12) + 1))).Minus(Whole(Of(r.Intn(3))))
		for _, x := range []Ratio{a, a.Negated(), New(Of(1), a.Num()), New(a.Num(), a.Num().Plus(Of(1)))} {
			if _, ok := x.Text(); x.IsShort() != ok {
				t.Fatalf("IsShort of about 10^%d: %t", api.MaxDigits, x.IsShort())
			}
		}
	}
	if !(Ratio{}).IsShort() || ten.Times(ten).IsShort() || New(Of(1), ten.Times(ten).Num()).IsShort() {
		t.Error("IsShort of other numbers")
	}
}

func TestPowers(t *testing.T) {
	r := rand.New(rand.NewSource(5))
	for range 3000 {
		a, n := someRatio(r), r.Intn(25)-12
		if a.IsZero() {
			n = max(n, -n)
		}
		want := big.NewRat(1, 1)
		for range max(n, -n) {
			want.Mul(want, toRat(a))
		}
		if n < 0 {
			want.Inv(want)
		}
		expectRatio(t, "Power", a.Power(n), want)
	}
	expectRatio(t, "Power", Ratio{}.Power(0), big.NewRat(1, 1))
	expectRatio(t, "Power", Ratio{}.Power(3), new(big.Rat))
}

func TestScaledAndDot(t *testing.T) {
	r := rand.New(rand.NewSource(3))
	for range 2000 {
		v := make([]Ratio, r.Intn(6))
		for i := range v {
			v[i] = someRatio(r)
			if r.Intn(5) == 0 {
				v[i] = Ratio{}
			}
		}
		whole, common := Scaled(v)
		least := big.NewInt(1)
		for _, x := range v {
			den := toRat(x).Denom()
			least.Div(new(big.Int).Mul(least, den), new(big.Int).GCD(nil, nil, least, den))
		}
		expectInteger(t, "the factor", common, least)
		want := new(big.Rat)
		for i, x := range whole {
			expectRatio(t, "Scaled", New(x, common), toRat(v[i]))
			want.Add(want, new(big.Rat).Mul(toRat(v[i]), toRat(v[i])))
		}
		expectRatio(t, "Dot", New(Dot(whole, whole), common.Times(common)), want)
	}
}

func TestSums(t *testing.T) {
	r := rand.New(rand.NewSource(4))
	for range 2000 {
		v := make([]Ratio, r.Intn(9))
		want := new(big.Rat)
		for i := range v {
			v[i] = someRatio(r)
			want.Add(want, toRat(v[i]))
		}
		expectRatio(t, "Sum", Sum(v), want)
	}
	expectRatio(t, "Sum", Sum(nil), new(big.Rat))
}
