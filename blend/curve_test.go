package blend_test

import (
	"math/big"
	"math/rand"
	"slices"
	"strconv"
	"testing"

	"cracknel/api"
	"cracknel/blend"
)

// with returns a program with another right side of a row.
func with(p api.Program, row int, right *big.Rat) api.Program {
	out := copied(p)
	out.Rows[row].Right = num(right)
	return out
}

func between(a, b *big.Rat) *big.Rat {
	sum := new(big.Rat).Add(a, b)
	return sum.Mul(sum, big.NewRat(1, 2))
}

// checkCurve checks a curve against the least costs, which v returns: at the
// corners, and halfway between neighbours (there a convex function is below the
// straight line, unless it is one).
func checkCurve(t *testing.T, corners []api.Corner, low, high api.Num, v func(at *big.Rat) *big.Rat) {
	t.Helper()
	if len(corners) == 0 || corners[0].At != low || corners[len(corners)-1].At != high || (len(corners) == 1) != (low == high) {
		t.Fatalf("a curve from %s to %s: %v", low, high, corners)
	}
	var slopes []*big.Rat
	for i, c := range corners {
		at, value := rat(c.At), rat(c.Value)
		if value.Cmp(v(at)) != 0 {
			t.Fatalf("%v: the least cost at %s is %s", corners, c.At, num(v(at)))
		}
		if i == 0 {
			continue
		}
		from, before := rat(corners[i-1].At), rat(corners[i-1].Value)
		if from.Cmp(at) >= 0 {
			t.Fatalf("%v: corners do not rise", corners)
		}
		if got := v(between(from, at)); got.Cmp(between(before, value)) != 0 {
			t.Fatalf("%v: not straight before %s", corners, c.At)
		}
		slopes = append(slopes, new(big.Rat).Quo(new(big.Rat).Sub(value, before), new(big.Rat).Sub(at, from)))
	}
	for i := 1; i < len(slopes); i++ {
		if slopes[i-1].Cmp(slopes[i]) >= 0 {
			t.Fatalf("%v: slopes %v do not rise", corners, slopes)
		}
	}
}

func expectCorners(t *testing.T, p api.Program, row int, low, high api.Num, want ...string) {
	t.Helper()
	var corners []api.Corner
	for _, pair := range want {
		v := vec(pair)
		corners = append(corners, api.Corner{At: v[0], Value: v[1]})
	}
	got, e := blend.Curve(p, row, low, high)
	if e != api.OK || !slices.Equal(got, corners) {
		t.Errorf("Curve(%v, %d, %s, %s) = %v, %d, want %v", p, row, low, high, got, e, corners)
	}
}

func expectCurveError(t *testing.T, p api.Program, row int, low, high api.Num, want api.Errno) {
	t.Helper()
	if got, e := blend.Curve(p, row, low, high); e != want || len(got) > 0 {
		t.Errorf("Curve(%.200v, %d, %.100s, %.100s) = %.100v, %d, want error %d", p, row, low, high, got, e, want)
	}
}

func TestCorners(t *testing.T) {
	p := prog("2 3", "1 1 >= 4", "1 0 <= 3")
	expectCorners(t, p, 0, "0", "5", "0 0", "3 6", "5 12")
	expectCorners(t, p, 0, "-2", "5", "-2 0", "0 0", "3 6", "5 12")
	expectCorners(t, p, 0, "0", "3", "0 0", "3 6")
	expectCorners(t, p, 0, "3", "5", "3 6", "5 12")
	expectCorners(t, p, 0, "1/2", "5/2", "1/2 1", "5/2 5")
	expectCorners(t, p, 0, "3", "3", "3 6")
	expectCorners(t, p, 0, "-7", "-7", "-7 0")
	expectCorners(t, p, 0, "-7", "-5/3", "-7 0", "-5/3 0")
	expectCorners(t, p, 1, "0", "9", "0 12", "4 8", "9 8")
	expectCurveError(t, p, 1, "-1", "9", api.ErrNone)
	expectCurveError(t, p, 1, "-1", "-1", api.ErrNone)
	expectCorners(t, prog("1 1", "1 1 = 5"), 0, "0", "5", "0 0", "5 5")
	expectCorners(t, prog("1 -1", "1 -1 = 5"), 0, "-5", "5", "-5 -5", "5 5")
	expectCorners(t, prog("1 1", "1 -1 = 5"), 0, "-5", "5", "-5 5", "0 0", "5 5")
	// No right side but that of the row is changed, and its own does not count.
	expectCorners(t, prog("1", "1 >= 1/999", "1 >= 1/7", "1 <= 2"), 0, "0", "2", "0 1/7", "1/7 1/7", "2 2")
	expectCurveError(t, prog("1", "1 >= 1/999", "1 >= 1/7", "1 <= 2"), 0, "0", "3", api.ErrNone)
}

// Of each kind of answer other than an optimum, at either end.
func TestCurvesWithoutOptimum(t *testing.T) {
	for _, p := range []api.Program{prog("-1", "1 >= 2"), prog("1", "0 = 1"), prog("1", "1 >= 2", "1 <= 1", "0 = 1")} {
		expectCurveError(t, p, 0, "0", "9", api.ErrNone)
		expectCurveError(t, p, 0, "2", "2", api.ErrNone)
	}
	expectCurveError(t, prog("1", "1 = 2"), 0, "-1", "1", api.ErrNone)
	expectCurveError(t, prog("1", "1 = 2"), 0, "-1/99999", "1", api.ErrNone)
	expectCurveError(t, prog("-1", "1 <= 2", "1 <= 0", "-1 <= 5"), 0, "-1", "1", api.ErrNone)
	// Without a point at one end, and without an end of the cost at the other.
	expectCurveError(t, prog("-1 0", "0 1 = 1"), 0, "-1", "1", api.ErrNone)
	expectCurveError(t, prog("-1 0", "0 1 = 1"), 0, "1", "2", api.ErrNone)
}

func TestErrorsOfCurve(t *testing.T) {
	p, long := prog("2 3", "1 1 >= 4", "1 0 <= 3"), api.Num("1"+digits(40, "0"))
	for _, row := range []int{-1, 2, 48, 1 << 40, -1 << 62} {
		expectCurveError(t, p, row, "0", "1", api.ErrArg)
		expectCurveError(t, p, row, "0", "1/0", api.ErrForm)
	}
	expectCurveError(t, p, 0, "1", "0", api.ErrArg)
	expectCurveError(t, p, 0, "1/2", "1/3", api.ErrArg)
	expectCurveError(t, p, 1, "-1", "-2", api.ErrArg)
	for _, bad := range []api.Num{"", "-0", "2/4", "x", api.Num(digits(api.MaxDigits+1, "1"))} {
		expectCurveError(t, p, 0, bad, "1", api.ErrForm)
		expectCurveError(t, p, 0, "0", bad, api.ErrForm)
		expectCurveError(t, p, 9, "1", bad, api.ErrForm)
		expectCurveError(t, api.Program{}, 0, "1", bad, api.ErrForm)
		expectCurveError(t, prog("1 2", "1 >= "+"1"), 0, bad, "1", api.ErrForm)
	}
	for _, x := range []api.Num{long, "1/" + long, api.Num(digits(api.MaxDigits, "1"))} {
		expectCurveError(t, p, 0, "0", x, api.ErrArg)
		expectCurveError(t, p, 0, "-"+x, "1", api.ErrArg)
	}
	most := api.Num(digits(40, "9"))
	expectCorners(t, prog("1", "1 >= 0"), 0, "-"+most, "-1/"+most, "-"+string(most)+" 0", "-1/"+string(most)+" 0")
	expectCorners(t, prog("1", "1 >= 0"), 0, "-"+most, most, "-"+string(most)+" 0", "0 0", string(most)+" "+string(most))
	// An invalid program, and one without optimum, come in this order.
	expectCurveError(t, api.Program{}, 0, "0", "1", api.ErrArg)
	expectCurveError(t, prog("-1", "1 >= 0"), 1, "0", "1", api.ErrArg)
	expectCurveError(t, prog("-1", "1 >= 0"), 0, "2", "1", api.ErrArg)
	expectCurveError(t, prog("-1", "1 >= 0"), 0, "1", "2", api.ErrNone)
}

func TestCurvesAgainstCorners(t *testing.T) {
	r := rand.New(rand.NewSource(11))
	counts := map[int]int{}
	for range 4000 {
		p := someProgram(r, 1+r.Intn(3), 1+r.Intn(4))
		if r.Intn(3) > 0 {
			for i, x := range p.Cost {
				p.Cost[i] = num(new(big.Rat).Abs(rat(x)))
			}
		}
		row := r.Intn(len(p.Rows))
		low, high := small(r, 9), small(r, 9)
		if rat(low).Cmp(rat(high)) > 0 {
			low, high = high, low
		}
		isOptimal := func(at api.Num) bool { return plainOf(with(p, row, rat(at))).outcome().kind == api.Optimal }
		corners, e := blend.Curve(p, row, low, high)
		if !isOptimal(low) || !isOptimal(high) {
			if e != api.ErrNone || len(corners) > 0 {
				t.Fatalf("Curve(%v, %d, %s, %s) = %v, %d", p, row, low, high, corners, e)
			}
			continue
		}
		if e != api.OK {
			t.Fatalf("Curve(%v, %d, %s, %s): error %d", p, row, low, high, e)
		}
		counts[len(corners)]++
		checkCurve(t, corners, low, high, func(at *big.Rat) *big.Rat { return plainOf(with(p, row, at)).outcome().value })
	}
	if counts[2] < 500 || counts[3] < 100 || counts[4] < 5 {
		t.Errorf("the curves are too much alike: %v", counts)
	}
}

// A dearer and dearer way for each unit, or half a unit.
func TestManyCorners(t *testing.T) {
	const n = 30
	p := api.Program{Rows: []api.Row{{Coef: slices.Repeat([]api.Num{"1"}, n), Kind: api.Equal, Right: "0"}}}
	var want []string
	sum, at := new(big.Rat), new(big.Rat)
	for i := range n {
		p.Cost = append(p.Cost, api.Num(strconv.Itoa(i-n/3)))
		size := big.NewRat(1, int64(1+i%2))
		limit := api.Row{Coef: slices.Repeat([]api.Num{"0"}, n), Kind: api.AtMost, Right: num(size)}
		limit.Coef[i] = "1"
		p.Rows = append(p.Rows, limit)
		want = append(want, string(num(at)+" "+num(sum)))
		at.Add(at, size)
		sum.Add(sum, new(big.Rat).Mul(rat(p.Cost[i]), size))
	}
	want = append(want, string(num(at)+" "+num(sum)))
	expectCorners(t, p, 0, "0", num(at), want...)
	expectCorners(t, p, 0, "0", "1", want[0], want[1])
	expectCurveError(t, p, 0, "0", num(new(big.Rat).Add(at, big.NewRat(1, 1000000))), api.ErrNone)
}

// Larger programs, by their own least costs.
func TestLargerCurves(t *testing.T) {
	r := rand.New(rand.NewSource(12))
	most := 0
	for range 60 {
		n := 6 + r.Intn(8)
		p := api.Program{}
		for range n {
			p.Cost = append(p.Cost, api.Num(strconv.Itoa(1+r.Intn(30))))
		}
		for range 4 + r.Intn(8) {
			row := api.Row{Kind: api.AtLeast, Right: api.Num(strconv.Itoa(r.Intn(20)))}
			for range n {
				row.Coef = append(row.Coef, api.Num(strconv.Itoa(r.Intn(8))))
			}
			p.Rows = append(p.Rows, row)
		}
		p.Rows[0].Coef[0] = "1"
		for k := range p.Rows {
			p.Rows[k].Coef[k%n] = "3"
		}
		corners, e := blend.Curve(p, 0, "-10", "300")
		if e != api.OK {
			t.Fatalf("Curve(%v): error %d", p, e)
		}
		most = max(most, len(corners))
		checkCurve(t, corners, "-10", "300", func(at *big.Rat) *big.Rat {
			return rat(solve(t, with(p, 0, at)).Value)
		})
	}
	if most < 6 {
		t.Errorf("at most %d corners", most)
	}
}

func TestDigitsOfCorners(t *testing.T) {
	p, x := longestChain()
	missing := api.MaxDigits - sizeOf(x[len(x)-1])
	for zeros := missing - 2; zeros <= missing+6; zeros++ {
		q, y := lengthened(p, x, zeros)
		n := len(y)
		q.Cost[n-1] = "1"
		// The cost is the last variable, and grows with the first right side.
		corners, e := blend.Curve(q, 0, "0", "1")
		if sizeOf(y[n-1]) > api.MaxDigits {
			if e != api.ErrRange || len(corners) > 0 {
				t.Errorf("a corner of %d digits: error %d", sizeOf(y[n-1]), e)
			}
		} else if e != api.OK || !slices.Equal(corners, []api.Corner{{At: "0", Value: "0"}, {At: "1", Value: num(y[n-1])}}) {
			t.Errorf("a corner of %d digits: %v, error %d", sizeOf(y[n-1]), corners, e)
		}
		// The corner is where the last variable, which is that long, is left out.
		q.Rows = append(q.Rows, api.Row{Coef: slices.Repeat([]api.Num{"0"}, n), Kind: api.AtLeast, Right: "0"})
		for k := range q.Rows {
			q.Rows[k].Coef = append(q.Rows[k].Coef, "0")
		}
		q.Cost = append(slices.Repeat([]api.Num{"0"}, n), "1")
		q.Rows[n].Coef[n-1], q.Rows[n].Coef[n] = "1", "1"
		corners, e = blend.Curve(q, n, "0", "1")
		if sizeOf(y[n-1]) > api.MaxDigits {
			if e != api.ErrRange || len(corners) > 0 {
				t.Errorf("a corner at %d digits: error %d", sizeOf(y[n-1]), e)
			}
		} else if e != api.OK || len(corners) != 3 || corners[1] != (api.Corner{At: num(y[n-1]), Value: "0"}) {
			t.Errorf("a corner at %d digits: %v, error %d", sizeOf(y[n-1]), corners, e)
		}
	}
}
