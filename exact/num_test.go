package exact_test

import (
	"math"
	"math/big"
	"math/rand"
	"strings"
	"testing"

	"cracknel/api"
	"cracknel/exact"
)

func TestCheckValid(t *testing.T) {
	for _, x := range []api.Num{
		"0", "1", "-1", "7", "-12/5", "1/2", "-3/4", "10", "100/3", "12345678901234567890123456789",
		api.Num(digits(api.MaxDigits, "9")), api.Num("-" + digits(api.MaxDigits, "9")),
		api.Num("1/" + digits(api.MaxDigits, "9")),
		api.Num("-" + digits(api.MaxDigits, "9") + "/" + string(power(api.MaxDigits-1))),
	} {
		if e := exact.Check(x); e != api.OK {
			t.Errorf("Check(%.60q): %d", x, e)
		}
	}
}

// invalid are strings that are no valid Nums.
func invalid() []api.Num {
	return []api.Num{
		"", "-", "/", "-/", "1/", "/2", "-/2", "1//2", "1/2/3", "1/2/",
		"-0", "00", "01", "-01", "007/2", "1/02", "1/00",
		"1/0", "0/1", "0/2", "-0/2", "0/0", "1/1", "5/1", "-5/1",
		"2/4", "6/3", "-6/4", "4/2", "10/100", "123456789012345678901234567890/2",
		"+1", "--1", "1-", "1/-2", "1/+2", "-1/-2", " 1", "1 ", "1 /2", "1/ 2", "\t1", "1\n",
		"1.5", "1e3", "0x10", "1_000", "a", "1a", "a1", "1/a", "1/2a", "١", "１", "½", "\x00", "1\x00", "\xff",
		"NaN", "Inf", "-Inf", "12345678901234567890a", "a2345678901234567890123",
		api.Num(digits(api.MaxDigits+1, "9")), api.Num("-" + digits(api.MaxDigits+1, "1")),
		api.Num("1/" + string(power(api.MaxDigits))), api.Num(string(power(api.MaxDigits)) + "/3"),
		api.Num(digits(api.MaxDigits, "9") + "/" + digits(api.MaxDigits, "9")),
		api.Num(digits(api.MaxDigits, "9") + "/" + digits(api.MaxDigits/2, "9")),
		api.Num("0" + digits(api.MaxDigits-1, "9")), api.Num(digits(1_000_000, "1")),
	}
}

func TestCheckInvalid(t *testing.T) {
	for _, x := range invalid() {
		if e := exact.Check(x); e != api.ErrForm {
			t.Errorf("Check(%.60q): %d", x, e)
		}
	}
}

// Every short string of the characters of Nums is valid exactly if it is what
// math/big writes for its value.
func TestCheckShortStrings(t *testing.T) {
	const letters = "01246-/"
	var grow func(s string, left int)
	grow = func(s string, left int) {
		want := api.ErrForm
		if x, ok := new(big.Rat).SetString(s); ok && x.RatString() == s {
			want = api.OK
		}
		if e := exact.Check(api.Num(s)); e != want {
			t.Errorf("Check(%q): %d", s, e)
		}
		for i := 0; left > 0 && i < len(letters); i++ {
			grow(s+letters[i:i+1], left-1)
		}
	}
	grow("", 5)
}

func TestMake(t *testing.T) {
	for _, c := range []struct {
		num, den int
		want     api.Num
	}{
		{6, -8, "-3/4"}, {0, 5, "0"}, {0, -5, "0"}, {4, 2, "2"}, {-4, -2, "2"}, {1, 3, "1/3"}, {-1, 1, "-1"},
		{math.MinInt64, -1, "9223372036854775808"}, {math.MinInt64, 1, "-9223372036854775808"},
		{math.MinInt64, math.MinInt64, "1"}, {1, math.MinInt64, "-1/9223372036854775808"},
		{math.MaxInt64, math.MinInt64, "-9223372036854775807/9223372036854775808"},
		{math.MinInt64, 6, "-4611686018427387904/3"},
	} {
		if x, e := exact.Make(c.num, c.den); e != api.OK || x != c.want {
			t.Errorf("Make(%d, %d) = %q, %d", c.num, c.den, x, e)
		}
	}
	for _, n := range []int{0, 1, -7, math.MinInt64} {
		if x, e := exact.Make(n, 0); e != api.ErrZero || x != "" {
			t.Errorf("Make(%d, 0) = %q, %d", n, x, e)
		}
	}
	for a := -30; a <= 30; a++ {
		for b := -30; b <= 30; b++ {
			if b == 0 {
				continue
			}
			if x, e := exact.Make(a, b); e != api.OK || x != num(big.NewRat(int64(a), int64(b))) {
				t.Errorf("Make(%d, %d) = %q, %d", a, b, x, e)
			}
		}
	}
}

// expectNum checks a result, which is refused exactly if it has too many digits.
func expectNum(t *testing.T, what string, a, b api.Num, got api.Num, e api.Errno, want *big.Rat) {
	t.Helper()
	if want == nil {
		if got != "" || e != api.ErrZero {
			t.Fatalf("%s(%.60q, %.60q) = %.60q, %d", what, a, b, got, e)
		}
		return
	}
	long := len(want.Num().Text(10)) > api.MaxDigits+(1-want.Sign())/2 || len(want.Denom().Text(10)) > api.MaxDigits
	if long {
		if got != "" || e != api.ErrRange {
			t.Fatalf("%s(%.60q, %.60q) = %.60q, %d", what, a, b, got, e)
		}
	} else if e != api.OK || got != num(want) {
		t.Fatalf("%s(%.60q, %.60q) = %.60q, %d, want %.60q", what, a, b, got, e, num(want))
	}
}

func checkField(t *testing.T, a, b api.Num) {
	t.Helper()
	x, y := rat(t, a), rat(t, b)
	got, e := exact.Add(a, b)
	expectNum(t, "Add", a, b, got, e, new(big.Rat).Add(x, y))
	got, e = exact.Sub(a, b)
	expectNum(t, "Sub", a, b, got, e, new(big.Rat).Sub(x, y))
	got, e = exact.Mul(a, b)
	expectNum(t, "Mul", a, b, got, e, new(big.Rat).Mul(x, y))
	got, e = exact.Div(a, b)
	if y.Sign() == 0 {
		expectNum(t, "Div", a, b, got, e, nil)
	} else {
		expectNum(t, "Div", a, b, got, e, new(big.Rat).Quo(x, y))
	}
	if c, e := exact.Cmp(a, b); e != api.OK || c != x.Cmp(y) {
		t.Fatalf("Cmp(%.60q, %.60q) = %d, %d", a, b, c, e)
	}
	got, e = exact.Floor(a)
	floor := new(big.Int).Div(x.Num(), x.Denom())
	expectNum(t, "Floor", a, "", got, e, new(big.Rat).SetInt(floor))
}

func TestArithmeticOfSmallNums(t *testing.T) {
	var all []api.Num
	for a := -6; a <= 6; a++ {
		for b := 1; b <= 4; b++ {
			all = append(all, num(big.NewRat(int64(a), int64(b))))
		}
	}
	for _, a := range all {
		for _, b := range all {
			checkField(t, a, b)
		}
	}
}

func TestArithmeticOfRandomNums(t *testing.T) {
	r := rand.New(rand.NewSource(1))
	for range 5000 {
		size := []int{1, 3, 9, 20, 40, 100}[r.Intn(6)]
		checkField(t, randomNum(r, size), randomNum(r, size))
	}
	for range 60 {
		checkField(t, randomNum(r, api.MaxDigits), randomNum(r, api.MaxDigits))
		checkField(t, randomNum(r, api.MaxDigits/2), randomNum(r, api.MaxDigits/2))
	}
}

func TestArithmeticAtTheLimit(t *testing.T) {
	greatest, least := api.Num(digits(api.MaxDigits, "9")), api.Num("1/"+digits(api.MaxDigits, "9"))
	edges := []api.Num{
		"0", "1", "-1", "1/2", "10", "1/10", greatest, "-" + greatest, least, "-" + least,
		power(api.MaxDigits - 1), "1/" + power(api.MaxDigits-1), power(api.MaxDigits / 2), "1/" + power(api.MaxDigits/2),
		"-" + power(api.MaxDigits/2-1), greatest + "/" + power(api.MaxDigits-1), power(api.MaxDigits-1) + "/" + greatest,
	}
	for _, a := range edges {
		for _, b := range edges {
			checkField(t, a, b)
		}
	}
	if x, e := exact.Add(greatest, "1"); e != api.ErrRange || x != "" {
		t.Errorf("Add beyond the limit = %.60q, %d", x, e)
	}
	if x, e := exact.Sub(greatest, "1"); e != api.OK || x != api.Num(digits(api.MaxDigits-1, "9")+"8") {
		t.Errorf("Sub at the limit = %.60q, %d", x, e)
	}
	if x, e := exact.Mul(least, "1/2"); e != api.ErrRange || x != "" {
		t.Errorf("Mul beyond the limit = %.60q, %d", x, e)
	}
	if x, e := exact.Mul(least, greatest); e != api.OK || x != "1" {
		t.Errorf("Mul at the limit = %.60q, %d", x, e)
	}
	if x, e := exact.Div("1", greatest); e != api.OK || x != least {
		t.Errorf("Div at the limit = %.60q, %d", x, e)
	}
}

func TestArithmeticErrors(t *testing.T) {
	two := map[string]func(a, b api.Num) (api.Num, api.Errno){
		"Add": exact.Add, "Sub": exact.Sub, "Mul": exact.Mul, "Div": exact.Div,
	}
	for _, bad := range invalid() {
		for name, f := range two {
			for _, pair := range [][2]api.Num{{bad, "1"}, {"1", bad}, {bad, bad}, {bad, "0"}} {
				if x, e := f(pair[0], pair[1]); e != api.ErrForm || x != "" {
					t.Errorf("%s(%.60q, %.60q) = %q, %d", name, pair[0], pair[1], x, e)
				}
			}
		}
		if c, e := exact.Cmp(bad, "1"); e != api.ErrForm || c != 0 {
			t.Errorf("Cmp(%.60q, 1) = %d, %d", bad, c, e)
		}
		if c, e := exact.Cmp("1", bad); e != api.ErrForm || c != 0 {
			t.Errorf("Cmp(1, %.60q) = %d, %d", bad, c, e)
		}
		if x, e := exact.Floor(bad); e != api.ErrForm || x != "" {
			t.Errorf("Floor(%.60q) = %q, %d", bad, x, e)
		}
		if n, e := exact.Int(bad); e != api.ErrForm || n != 0 {
			t.Errorf("Int(%.60q) = %d, %d", bad, n, e)
		}
	}
	for _, a := range []api.Num{"0", "1", "-3/4"} {
		if x, e := exact.Div(a, "0"); e != api.ErrZero || x != "" {
			t.Errorf("Div(%q, 0) = %q, %d", a, x, e)
		}
	}
}

func TestFloor(t *testing.T) {
	for x, want := range map[api.Num]api.Num{
		"-1/2": "-1", "1/2": "0", "0": "0", "7/2": "3", "-7/2": "-4", "5": "5", "-5": "-5", "-1/3": "-1",
		"99999999999999999999/10": "9999999999999999999", "-100000000000000000001/10": "-10000000000000000001",
	} {
		if got, e := exact.Floor(x); e != api.OK || got != want {
			t.Errorf("Floor(%q) = %q, %d", x, got, e)
		}
	}
}

func TestInt(t *testing.T) {
	for x, want := range map[api.Num]int{
		"0": 0, "1": 1, "-1": -1, "-7": -7, "4611686018427387904": 1 << 62, "-4611686018427387904": -1 << 62,
		"4611686018427387903": 1<<62 - 1, "-4611686018427387903": -1<<62 + 1,
	} {
		if n, e := exact.Int(x); e != api.OK || n != want {
			t.Errorf("Int(%q) = %d, %d", x, n, e)
		}
	}
	for _, x := range []api.Num{
		"4611686018427387905", "-4611686018427387905", "9223372036854775807", "9223372036854775808",
		"-9223372036854775808", "18446744073709551615", "18446744073709551616", "18446744073709551617",
		"-18446744073709551617", "36893488147419103232", api.Num(strings.Repeat("9", api.MaxDigits)),
	} {
		if n, e := exact.Int(x); e != api.ErrRange || n != 0 {
			t.Errorf("Int(%.60q) = %d, %d", x, n, e)
		}
	}
	for _, x := range []api.Num{"1/2", "-3/2", "99999999999999999999999/2"} {
		if n, e := exact.Int(x); e != api.ErrForm || n != 0 {
			t.Errorf("Int(%q) = %d, %d", x, n, e)
		}
	}
}
