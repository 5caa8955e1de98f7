package blend_test

import (
	"math/rand"
	"testing"

	"cracknel/api"
	"cracknel/blend"
)

func expectSpread(t *testing.T, p api.Program, i int, low, high api.Num) {
	t.Helper()
	if x, y, e := blend.Spread(p, i); e != api.OK || x != low || y != high {
		t.Errorf("Spread(%v, %d) = %q, %q, %d, want %q and %q", p, i, x, y, e, low, high)
	}
}

func expectSpreadError(t *testing.T, p api.Program, i int, want api.Errno) {
	t.Helper()
	if x, y, e := blend.Spread(p, i); e != want || x != "" || y != "" {
		t.Errorf("Spread(%.200v, %d) = %q, %q, %d, want error %d", p, i, x, y, e, want)
	}
}

func TestSpread(t *testing.T) {
	expectSpread(t, prog("1 1", "1 1 = 5"), 0, "0", "5")
	expectSpread(t, prog("1 1", "1 1 = 5"), 1, "0", "5")
	expectSpread(t, prog("1 2", "1 1 = 5"), 0, "5", "5")
	expectSpread(t, prog("1 2", "1 1 = 5"), 1, "0", "0")
	expectSpread(t, prog("1"), 0, "0", "0")
	expectSpread(t, prog("0"), 0, "0", "")
	expectSpread(t, prog("0", "1 >= 5/2"), 0, "5/2", "")
	expectSpread(t, prog("0", "1 >= 5/2", "1 <= 5/2"), 0, "5/2", "5/2")
	expectSpread(t, prog("0", "1 >= 5/2", "2 <= 17"), 0, "5/2", "17/2")
	expectSpread(t, prog("1 -1", "1 -1 >= -3"), 0, "0", "")
	expectSpread(t, prog("1 -1", "1 -1 >= -3"), 1, "3", "")
	expectSpread(t, prog("1 -1 0", "1 -1 0 >= -3", "1 0 1 <= 7"), 2, "0", "7")
	expectSpread(t, prog("1 -1 0", "1 -1 0 >= -3", "1 0 1 <= 7"), 1, "3", "10")
	expectSpread(t, prog("-1 -1", "1 1 <= 5", "0 1 <= 3"), 0, "2", "5")
	expectSpread(t, prog("-1 -1", "1 1 <= 5", "0 1 <= 3"), 1, "0", "3")
	// What is cheap has no end, but what is best of it does not move.
	expectSpread(t, prog("0 1", "0 1 >= 1"), 1, "1", "1")
	expectSpread(t, prog("0 1", "0 1 >= 1"), 0, "0", "")
}

func TestErrorsOfSpread(t *testing.T) {
	p := prog("1 1", "1 1 = 5")
	for _, i := range []int{-1, 2, 3, 32, 1 << 40, -1 << 62} {
		expectSpreadError(t, p, i, api.ErrArg)
		expectSpreadError(t, prog("-1 1"), i, api.ErrArg)
		expectSpreadError(t, prog("1 1", "0 0 = 5"), i, api.ErrArg)
		expectSpreadError(t, prog("1 1", "1 1 = 5/5"), i, api.ErrForm)
	}
	for i := range 2 {
		expectSpreadError(t, prog("-1 1"), i, api.ErrNone)
		expectSpreadError(t, prog("1 1", "0 0 = 5"), i, api.ErrNone)
		expectSpreadError(t, prog("1 1", "1 -1 = 5", "1 -1 <= 4"), i, api.ErrNone)
	}
	expectSpreadError(t, api.Program{}, 0, api.ErrArg)
	expectSpreadError(t, prog("1 1", "1 = 5"), 0, api.ErrArg)
}

func TestSpreadsAgainstCorners(t *testing.T) {
	r := rand.New(rand.NewSource(21))
	wide, endless := 0, 0
	for range 4000 {
		p := someProgram(r, 1+r.Intn(4), r.Intn(5))
		if r.Intn(2) == 0 {
			p.Cost = smalls(r, len(p.Cost), 1)
		}
		want := plainOf(p).outcome()
		for i := range p.Cost {
			if want.kind != api.Optimal {
				expectSpreadError(t, p, i, api.ErrNone)
				continue
			}
			high := api.Num("")
			if want.greatest[i] == nil {
				endless++
			} else if high = num(want.greatest[i]); want.least[i].Cmp(want.greatest[i]) < 0 {
				wide++
			}
			expectSpread(t, p, i, num(want.least[i]), high)
		}
	}
	if wide < 100 || endless < 200 {
		t.Errorf("the programs are too much alike: %d, %d", wide, endless)
	}
}

// All optima are between, and the least of the first variable is that of the
// lexicographically least optimum.
func TestSpreadsOfLargerPrograms(t *testing.T) {
	r := rand.New(rand.NewSource(22))
	for range 100 {
		p := someProgram(r, 5+r.Intn(5), 3+r.Intn(8))
		a := solve(t, p)
		if a.Kind != api.Optimal {
			expectSpreadError(t, p, 0, api.ErrNone)
			continue
		}
		for i, x := range a.X {
			low, high, e := blend.Spread(p, i)
			if e != api.OK || rat(low).Cmp(rat(x)) > 0 || high != "" && rat(high).Cmp(rat(x)) < 0 || i == 0 && low != x {
				t.Fatalf("Spread(%v, %d) = %q, %q, %d of %v", p, i, low, high, e, a.X)
			}
		}
	}
}

// What is no result may be too long: here a number that limits the variable only
// together with what has no end.
func TestEndlessBesideLongNumbers(t *testing.T) {
	p, x := longestChain()
	p, x = lengthened(p, x, api.MaxDigits-sizeOf(x[len(x)-1])+40)
	n := len(x)
	for k := range p.Rows {
		p.Rows[k].Coef = append(p.Rows[k].Coef, "0")
	}
	p.Cost = append(p.Cost, "0")
	p.Cost[n-1] = "-1"
	expectSpread(t, p, n, "0", "")
	expectSpread(t, p, 0, "1", "1")
	expectSpreadError(t, p, n-1, api.ErrRange)
	expectRange(t, p)
}
