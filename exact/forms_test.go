package exact_test

import (
	"math/big"
	"math/rand"
	"slices"
	"testing"

	"cracknel/api"
	"cracknel/exact"
)

// checkHermite checks all that the document says of a result of Hermite.
func checkHermite(t *testing.T, a [][]api.Num) {
	t.Helper()
	h, u, e := exact.Hermite(a)
	if e != api.OK {
		t.Fatalf("Hermite(%v): %d", a, e)
	}
	if want := plainHermite(t, a); !same(h, want) {
		t.Fatalf("Hermite(%v) = %v, want %v", a, h, want)
	}
	if len(u) != len(a) || len(u[0]) != len(a) {
		t.Fatalf("Hermite(%v): u is %v", a, u)
	}
	if !same(product(t, u, a), h) {
		t.Fatalf("Hermite(%v): u·a is not h, u = %v", a, u)
	}
	// The inverse of u has integers exactly if its determinant is 1 or -1.
	if !same(plainHermite(t, u), unit(len(u))) {
		t.Fatalf("Hermite(%v): u = %v", a, u)
	}
}

func TestHermiteOfExamples(t *testing.T) {
	for _, c := range []struct{ a, h string }{
		{"2 4; 3 5", "1 1; 0 2"},
		{"0", "0"}, {"1", "1"}, {"-1", "1"}, {"-7", "7"},
		{"0 0; 0 0", "0 0; 0 0"}, {"0 0 0", "0 0 0"}, {"0; 0", "0; 0"},
		{"0 -3 5", "0 3 -5"}, {"4; 6; 9", "1; 0; 0"}, {"0; -4; 6", "2; 0; 0"},
		{"1 2; 2 4", "1 2; 0 0"}, {"0 0; 1 2", "1 2; 0 0"}, {"0 2; 0 3", "0 1; 0 0"},
		{"2 1; 0 3", "2 1; 0 3"}, {"2 3; 0 3", "2 0; 0 3"}, {"2 -1; 0 3", "2 2; 0 3"}, {"5 7; 0 -3", "5 1; 0 3"},
		{"1 0 0; 0 1 0; 0 0 1", "1 0 0; 0 1 0; 0 0 1"}, {"0 1; 1 0", "1 0; 0 1"},
		{"2 4 6; 0 0 4; 0 0 6", "2 4 0; 0 0 2; 0 0 0"}, {"1 5 9; 0 0 4; 0 0 0", "1 5 1; 0 0 4; 0 0 0"},
	} {
		if h := mustHermite(t, mat(c.a)); !same(h, mat(c.h)) {
			t.Errorf("Hermite(%s) = %v, want %s", c.a, h, c.h)
		}
		checkHermite(t, mat(c.a))
	}
}

func TestHermiteOfAllSmallMatrices(t *testing.T) {
	values := []api.Num{"-2", "-1", "0", "1", "2", "3"}
	var fill func(a [][]api.Num, at int)
	fill = func(a [][]api.Num, at int) {
		if at == len(a)*len(a[0]) {
			checkHermite(t, a)
			return
		}
		for _, x := range values {
			a[at/len(a[0])][at%len(a[0])] = x
			fill(a, at+1)
		}
	}
	for _, shape := range [][2]int{{1, 1}, {1, 2}, {2, 1}, {2, 2}, {1, 3}, {3, 1}} {
		fill(filled(shape[0], shape[1], "0"), 0)
	}
}

func TestHermiteOfRandomMatrices(t *testing.T) {
	r := rand.New(rand.NewSource(1))
	for range 1500 {
		checkHermite(t, someMatrix(t, r, 6))
	}
	for range 60 {
		checkHermite(t, someMatrix(t, r, api.MaxRows))
	}
	for range 5 {
		checkHermite(t, randomDigits(r, api.MaxRows, api.MaxRows, 9))
		checkHermite(t, randomDigits(r, api.MaxRows, 5, 30))
		checkHermite(t, randomDigits(r, 5, api.MaxRows, 30))
	}
}

func TestHermiteAtTheLimit(t *testing.T) {
	n, m := api.Num(digits(api.MaxDigits, "9")), power(api.MaxDigits-1)
	for _, a := range [][][]api.Num{
		{{n}}, {{"-" + n}}, {{n, m}}, {{n}, {m}}, {{n}, {n}, {m}}, {{n, "0"}, {"0", m}}, {{n, m}, {n, m}}, {{"0", n}, {m, "0"}},
	} {
		checkHermite(t, a)
	}
	for _, a := range [][][]api.Num{
		{{n, "1"}, {"1", n}}, {{"3", n, m}, {"0", m, n}, {"0", n, n}},
		// Here the normal form is the unit matrix, but the only u is too long.
		{{"1", n, "0"}, {"0", "1", n}, {"0", "0", "1"}},
	} {
		if h, u, e := exact.Hermite(a); e != api.ErrRange || h != nil || u != nil {
			t.Errorf("Hermite beyond the limit: %d", e)
		}
	}
}

// No matrix of 6 rows and columns with numbers of 9 digits is refused.
func TestNoErrRangeOfSmallArguments(t *testing.T) {
	r := rand.New(rand.NewSource(2))
	for range 100 {
		a := randomDigits(r, 1+r.Intn(6), 1+r.Intn(6), 9)
		if r.Intn(3) == 0 {
			a[r.Intn(len(a))] = slices.Clone(a[0])
		}
		b := randomDigits(r, 1, len(a), 9)[0]
		if _, _, e := exact.Hermite(a); e != api.OK {
			t.Errorf("Hermite(%v): %d", a, e)
		}
		if _, e := exact.Smith(a); e != api.OK {
			t.Errorf("Smith(%v): %d", a, e)
		}
		_, _, e := exact.Solve(a, b)
		_, f := exact.Refuse(a, b)
		if e != api.OK && e != api.ErrNone || f != api.OK && f != api.ErrNone || e == f {
			t.Errorf("Solve and Refuse(%v, %v): %d, %d", a, b, e, f)
		}
		x := make([]api.Num, len(a[0]))
		for i := range x {
			x[i] = randomNum(r, 9)
		}
		if _, e := exact.Times(a, x); e != api.OK {
			t.Errorf("Times(%v, %v): %d", a, x, e)
		}
	}
}

func TestSmithOfExamples(t *testing.T) {
	for _, c := range []struct{ a, want string }{
		{"2 4; 3 5", "1 2"}, {"4 0; 0 6", "2 12"}, {"0", "0"}, {"-5", "5"}, {"1", "1"},
		{"0 0; 0 0", "0 0"}, {"0 0 0", "0"}, {"0; 0", "0"}, {"0 6 0", "6"}, {"4 6 10", "2"}, {"4; 6; 10", "2"},
		{"1 2; 2 4", "1 0"}, {"0 0; 0 3", "3 0"}, {"2 0 0; 0 3 0; 0 0 5", "1 1 30"}, {"6 0 0; 0 10 0; 0 0 15", "1 30 30"},
		{"2 4 4; -6 6 12; 10 -4 -16", "2 6 12"}, {"0 0 4; 0 6 0", "2 12"}, {"8 0; 4 8; 0 0", "4 16"}, {"9 3; 0 9", "3 27"},
	} {
		if d, e := exact.Smith(mat(c.a)); e != api.OK || !slices.Equal(d, vec(c.want)) {
			t.Errorf("Smith(%s) = %v, %d, want %s", c.a, d, e, c.want)
		}
	}
}

// smithOfMinors returns the quotients of the greatest common divisors of minors.
func smithOfMinors(t *testing.T, a [][]api.Num) []api.Num {
	m := bigMatrix(t, a)
	last := big.NewInt(1)
	out := []*big.Int{}
	for k := 1; k <= min(len(m), len(m[0])); k++ {
		g := new(big.Int)
		for _, rows := range choices(len(m), k) {
			for _, columns := range choices(len(m[0]), k) {
				g.GCD(nil, nil, g, new(big.Int).Abs(minor(m, rows, columns)))
			}
		}
		if g.Sign() == 0 {
			out = append(out, g)
		} else {
			out = append(out, new(big.Int).Quo(g, last))
			last = g
		}
	}
	return nums(out)
}

func TestSmithOfRandomMatrices(t *testing.T) {
	r := rand.New(rand.NewSource(3))
	for range 1200 {
		a := someMatrix(t, r, 4)
		if d, e := exact.Smith(a); e != api.OK || !slices.Equal(d, smithOfMinors(t, a)) {
			t.Fatalf("Smith(%v) = %v, %d, want %v", a, d, e, smithOfMinors(t, a))
		}
	}
}

func TestSmithAtTheLimit(t *testing.T) {
	n, m := api.Num(digits(api.MaxDigits, "9")), power(api.MaxDigits-1)
	for _, c := range []struct {
		a    [][]api.Num
		want []api.Num
	}{
		{[][]api.Num{{"-" + n}}, []api.Num{n}},
		{[][]api.Num{{n, "0"}, {"0", n}}, []api.Num{n, n}},
		{[][]api.Num{{n, n}, {n, n}}, []api.Num{n, "0"}},
		{[][]api.Num{{n, m}}, []api.Num{"1"}},
	} {
		if d, e := exact.Smith(c.a); e != api.OK || !slices.Equal(d, c.want) {
			t.Errorf("Smith at the limit: %d", e)
		}
	}
	if d, e := exact.Smith([][]api.Num{{n, "0"}, {"0", m}}); e != api.ErrRange || d != nil {
		t.Errorf("Smith beyond the limit: %d", e)
	}
}

func TestDetOfExamples(t *testing.T) {
	for _, c := range []struct {
		a    string
		want api.Num
	}{
		{"0", "0"}, {"-7", "-7"}, {"2 4; 3 5", "-2"}, {"0 1; 1 0", "-1"}, {"1 2; 2 4", "0"}, {"0 0; 0 0", "0"}, {"0 2; 0 3", "0"},
		{"0 0 1; 0 1 0; 1 0 0", "-1"}, {"0 1 0; 0 0 1; 1 0 0", "1"}, {"1 2 3; 4 5 6; 7 8 9", "0"}, {"2 0 0; 0 0 3; 0 5 0", "-30"},
	} {
		if d, e := exact.Det(mat(c.a)); e != api.OK || d != c.want {
			t.Errorf("Det(%s) = %q, %d, want %s", c.a, d, e, c.want)
		}
	}
}

func TestDetOfRandomMatrices(t *testing.T) {
	r := rand.New(rand.NewSource(4))
	for range 800 {
		n := 1 + r.Intn(5)
		a := randomMatrix(r, n, n, []int{1, 2, 20, 999999999}[r.Intn(4)])
		want := minor(bigMatrix(t, a), upTo(n), upTo(n))
		if d, e := exact.Det(a); e != api.OK || d != api.Num(want.String()) {
			t.Fatalf("Det(%v) = %q, %d, want %v", a, d, e, want)
		}
	}
	// A product of triangular matrices has a determinant that is known.
	n := api.MaxRows
	left, right := unit(n), unit(n)
	want := big.NewInt(1)
	for i := range n {
		for j := range i {
			left[i][j], right[j][i] = randomInteger(r, 9), randomInteger(r, 9)
		}
		right[i][i] = randomInteger(r, 9)
		want.Mul(want, rat(t, right[i][i]).Num())
	}
	if d, e := exact.Det(product(t, left, right)); e != api.OK || d != api.Num(want.String()) {
		t.Errorf("Det of a product = %q, %d, want %v", d, e, want)
	}
}

func TestDetAtTheLimit(t *testing.T) {
	half := power(api.MaxDigits / 2)
	shorter := power(api.MaxDigits/2 - 1)
	if d, e := exact.Det([][]api.Num{{half, "0"}, {"0", shorter}}); e != api.OK || d != power(api.MaxDigits-1) {
		t.Errorf("Det at the limit: %d", e)
	}
	if d, e := exact.Det([][]api.Num{{"0", half}, {half, "0"}}); e != api.ErrRange || d != "" {
		t.Errorf("Det beyond the limit = %.60q, %d", d, e)
	}
	if d, e := exact.Det([][]api.Num{{half, half}, {half, half}}); e != api.OK || d != "0" {
		t.Errorf("Det of equal rows = %.60q, %d", d, e)
	}
}

func TestTimes(t *testing.T) {
	for _, c := range []struct{ a, x, want string }{
		{"2 3", "2 1", "7"}, {"1 2; 3 4", "1/2 -1/4", "0 1/2"}, {"0", "5/7", "0"}, {"-1; 2; 0", "1/6", "-1/6 1/3 0"},
		{"1 1 1", "1/2 1/3 1/6", "1"}, {"6 10", "1/6 1/10", "2"}, {"1 -1", "1/3 1/3", "0"},
	} {
		if v, e := exact.Times(mat(c.a), vec(c.x)); e != api.OK || !slices.Equal(v, vec(c.want)) {
			t.Errorf("Times(%s, %s) = %v, %d, want %s", c.a, c.x, v, e, c.want)
		}
	}
	r := rand.New(rand.NewSource(5))
	for range 300 {
		a := someMatrix(t, r, api.MaxRows)
		x := make([]api.Num, len(a[0]))
		for i := range x {
			x[i] = randomNum(r, []int{1, 9, 60}[r.Intn(3)])
		}
		want := make([]api.Num, len(a))
		for i, row := range a {
			sum := new(big.Rat)
			for j := range row {
				sum.Add(sum, new(big.Rat).Mul(rat(t, row[j]), rat(t, x[j])))
			}
			want[i] = num(sum)
		}
		if v, e := exact.Times(a, x); e != api.OK || !slices.Equal(v, want) {
			t.Fatalf("Times(%v, %v) = %v, %d, want %v", a, x, v, e, want)
		}
	}
}

func TestTimesAtTheLimit(t *testing.T) {
	n := api.Num(digits(api.MaxDigits, "9"))
	if v, e := exact.Times([][]api.Num{{n, "-" + n}, {n, "0"}}, []api.Num{"1", "1"}); e != api.OK || !slices.Equal(v, []api.Num{"0", n}) {
		t.Errorf("Times at the limit: %d", e)
	}
	if v, e := exact.Times([][]api.Num{{"0", "0"}, {n, "1"}}, []api.Num{"1", "1"}); e != api.ErrRange || v != nil {
		t.Errorf("Times beyond the limit: %d", e)
	}
	if v, e := exact.Times([][]api.Num{{"1", "1"}}, []api.Num{"1/" + n, "1/" + power(api.MaxDigits-1)}); e != api.ErrRange || v != nil {
		t.Errorf("Times with a long denominator: %d", e)
	}
}

func TestReduce(t *testing.T) {
	for _, c := range []struct{ h, v, want string }{
		{"1 1; 0 2", "3 -4", "0 1"}, {"1 1; 0 2", "0 0", "0 0"}, {"2 1; 0 3", "-1 0", "1 1"}, {"0", "-5", "-5"}, {"0 0; 0 0", "4 -7", "4 -7"},
		{"3", "-1", "2"}, {"3", "3", "0"}, {"3", "2", "2"}, {"0 4 1; 0 0 5", "-9 -1 0", "-9 3 1"}, {"1 0 7; 0 0 0", "2 5 0", "0 5 -14"},
		{"2 0 1; 0 3 1; 0 0 0", "5 7 0", "1 1 -4"},
	} {
		if v, e := exact.Reduce(mat(c.h), vec(c.v)); e != api.OK || !slices.Equal(v, vec(c.want)) {
			t.Errorf("Reduce(%s, %s) = %v, %d, want %s", c.h, c.v, v, e, c.want)
		}
	}
}

// Reduced vectors have entries from 0 to the pivots, and differ from the vector
// by a combination of the rows: a reduced one stays, and a row changes nothing.
func TestReduceOfRandomVectors(t *testing.T) {
	r := rand.New(rand.NewSource(6))
	for range 400 {
		h := mustHermite(t, someMatrix(t, r, 8))
		v := randomDigits(r, 1, len(h[0]), 1+r.Intn(12))[0]
		got, e := exact.Reduce(h, v)
		if e != api.OK {
			t.Fatalf("Reduce(%v, %v): %d", h, v, e)
		}
		rows, want := bigMatrix(t, h), bigVector(t, v)
		for _, row := range rows {
			if pivot := slices.IndexFunc(row, func(x *big.Int) bool { return x.Sign() != 0 }); pivot >= 0 {
				subtractRow(want, new(big.Int).Div(want[pivot], row[pivot]), row)
			}
		}
		if !slices.Equal(got, nums(want)) {
			t.Fatalf("Reduce(%v, %v) = %v, want %v", h, v, got, nums(want))
		}
		again, e := exact.Reduce(h, got)
		if e != api.OK || !slices.Equal(again, got) {
			t.Fatalf("Reduce(%v, %v) = %v, %d: it was reduced", h, got, again, e)
		}
		moved := bigVector(t, v)
		subtractRow(moved, big.NewInt(int64(r.Intn(9)-4)), rows[r.Intn(len(rows))])
		if other, e := exact.Reduce(h, nums(moved)); e != api.OK || !slices.Equal(other, got) {
			t.Fatalf("Reduce(%v, %v) = %v, %d, want %v", h, nums(moved), other, e, got)
		}
	}
}

func TestReduceRefused(t *testing.T) {
	for _, h := range []string{
		"-1", "0 0; 1 0", "0 1; 1 0", "1 2; 0 2", "1 -1; 0 2", "1 3; 0 2", "1 0; 0 -1", "1 1; 1 1", "2 0; 1 0",
		"1 0 0; 0 0 0; 0 0 1", "0 2 1; 0 3 0", "1 0 5; 0 1 0; 0 0 5", "3 1 0; 0 1 0; 0 0 1",
	} {
		v := slices.Repeat([]api.Num{"1"}, len(mat(h)[0]))
		if got, e := exact.Reduce(mat(h), v); e != api.ErrArg || got != nil {
			t.Errorf("Reduce(%s, ..) = %v, %d", h, got, e)
		}
	}
	for _, v := range []string{"", "1", "1 2 3", "1 2 1/2"} {
		if got, e := exact.Reduce(mat("1 0; 0 1"), vec(v)); e != api.ErrArg || got != nil {
			t.Errorf("Reduce(.., %s) = %v, %d", v, got, e)
		}
	}
	for _, v := range []string{"1/2 0", "0 1/2", "1/2 1/2"} {
		if got, e := exact.Reduce(mat("1 0; 0 1"), vec(v)); e != api.ErrForm || got != nil {
			t.Errorf("Reduce(.., %s) = %v, %d", v, got, e)
		}
	}
	n := api.Num(digits(api.MaxDigits, "9"))
	if got, e := exact.Reduce([][]api.Num{{"1", n}}, []api.Num{"2", "0"}); e != api.ErrRange || got != nil {
		t.Errorf("Reduce beyond the limit: %d", e)
	}
	if got, e := exact.Reduce([][]api.Num{{"1", n}}, []api.Num{"2", n}); e != api.OK || !slices.Equal(got, []api.Num{"0", "-" + n}) {
		t.Errorf("Reduce at the limit: %d", e)
	}
}
