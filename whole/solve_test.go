package whole_test

import (
	"math/big"
	"math/rand"
	"slices"
	"strings"
	"testing"

	"cracknel/api"
	"cracknel/blend"
	"cracknel/whole"
)

// Examples 1 and 2 of the chapter.
func TestExamples(t *testing.T) {
	a := job("2 3", "0 0", "9 9", "2 2 >= 5")
	expectSolution(t, a, []int{3, 0}, 6)
	expectAll(t, a)
	if answer, e := blend.Solve(a.p); e != api.OK || answer.Value != "5" {
		t.Errorf("the program alone costs %s, error %d", answer.Value, e)
	}
	a = job("0", "0", "5", "2 = 3")
	expectSolveError(t, a, api.ErrNone)
	proof := []api.Node{{Kind: api.Split, At: 1}, {Kind: api.Empty, Y: nums("1")}, {Kind: api.Empty, Y: nums("-1")}}
	expectShows(t, a, "", proof, true)
	prove(t, a, "")
}

func TestSolve(t *testing.T) {
	for _, c := range []struct {
		a    task
		x    string
		cost int
	}{
		// Programs without rows: each variable is as cheap as can be.
		{job("1", "0", "0"), "0", 0},
		{job("3 -2 0", "4 1 7", "6 9 8"), "4 9 7", -6},
		{job("-1 -1 -1 -1 -1 -1", "0 0 0 0 0 0", "1000000 1000000 1000000 1000000 1000000 1000000"), "1000000 1000000 1000000 1000000 1000000 1000000", -6000000},
		// Costs of 0: the lexicographically least solution.
		{job("0 0", "0 0", "9 9", "1 1 >= 12"), "3 9", 0},
		{job("0 0 0", "1 0 2", "5 5 5", "1 1 1 = 9"), "1 3 5", 0},
		{job("0", "0", "1000000", "3/7 >= 1000"), "2334", 0},
		// Ties between cheapest solutions.
		{job("1 1", "0 0", "9 9", "1 1 >= 5"), "0 5", 5},
		{job("1 1", "0 0", "9 3", "1 1 >= 5"), "2 3", 5},
		{job("2 2 2", "0 0 0", "4 4 4", "2 2 2 >= 9"), "0 1 4", 10},
		{job("-1 -1", "0 0", "9 9", "2 2 <= 9"), "0 4", -4},
		{job("1 2 3", "0 0 0", "9 9 9", "2 3 4 = 11"), "4 1 0", 6},
		{job("-1 -1", "0 0", "1000000 1000000", "7 7 <= 6999999"), "0 999999", -999999},
		// Costs below 0.
		{job("-5 -4 -3", "0 0 0", "9 9 9", "2 3 1 <= 5", "4 1 2 <= 11", "3 4 2 <= 8"), "2 0 1", -13},
		{job("5 -4", "0 0", "10 10", "-2 2 <= 1"), "0 0", 0},
		// Fractions.
		{job("3 5", "0 0", "50 50", "1/2 1/3 >= 7/6", "1/7 -1/7 <= 1/7"), "2 1", 11},
		// What is refused by no row, but by rows together.
		{job("1 1", "0 0", "20 20", "3 -5 = 1", "1 1 >= 8"), "7 4", 11},
	} {
		expectSolution(t, c.a, ints(c.x), c.cost)
	}
}

// Boxes without a solution, most of which have points of the linear program.
func TestNoSolution(t *testing.T) {
	for _, a := range []task{
		job("1", "0", "9", "2 = 7"),
		job("1", "3", "9", "1 <= 2"),
		job("0", "0", "0", "0 >= 1"),
		job("0 0", "5 5", "5 5", "1 1 = 11"),
		job("1 1", "0 0", "9 9", "2 2 = 7"),
		job("1 1", "0 0", "9 9", "3 -3 >= 1", "3 -3 <= 2"),
		job("-1 2 1", "0 0 0", "9 9 9", "2 2 2 = 27"),
		job("1 1", "0 0", "8 8", "1/2 1/3 = 1/5"),
		job("1 1 1", "0 0 0", "4 4 4", "1 1 1 >= 13"),
		job("0 0", "0 0", "30 30", "1 1 >= 5", "1 1 <= 4"),
		job("1 -1", "0 0", "20 20", "10 -10 >= 3", "10 -10 <= 7"),
	} {
		expectSolveError(t, a, api.ErrNone)
		expectAll(t, a)
	}
}

// W1, W2: all results against the oracle.
func TestRandom(t *testing.T) {
	r := rand.New(rand.NewSource(1))
	for range 3000 {
		n := between(r, 1, 3)
		expectAll(t, someTask(r, n, r.Intn(5), []int{30, 9, 6}[n-1]))
	}
	for range 400 {
		expectAll(t, someTask(r, between(r, 4, 6), r.Intn(6), 3))
	}
}

func TestBoxesOfOnePoint(t *testing.T) {
	r := rand.New(rand.NewSource(2))
	for range 200 {
		a := someTask(r, between(r, 1, 6), r.Intn(4), 1)
		if !slices.Equal(a.low, a.high) {
			t.Fatal("more than one point")
		}
		expectAll(t, a)
	}
	expectAll(t, job("7", "1000000", "1000000", "1 = 1000000"))
	expectAll(t, job("7", "1000000", "1000000", "1 = 999999"))
}

// Whatever the program is, no box of 1000 points is refused.
func TestThousandPoints(t *testing.T) {
	for _, a := range []task{
		job("1", "0", "999", "2 = 999"), job("0", "9", "1008"), job("-1", "0", "999", "1/3 <= 100/7"),
		job("1 1 1", "0 0 0", "9 9 9", "2 2 2 = 27"), job("1 1 1", "90 0 7", "99 9 16", "2 4 6 >= 333", "2 4 6 <= 335"),
		job("0 0 0 0 0 0", "0 0 0 0 0 0", "4 4 4 1 1 1", "6 6 6 6 6 6 = 45"),
		job("1 2 3 4 5 6", "0 0 0 0 0 0", "4 4 4 1 1 1", "12 14 16 18 20 22 = 125", "3 3 3 3 3 3 <= 100"),
		job("1 -1", "0 0", "39 24", "40 -40 >= 1", "40 -40 <= 39"), job("1 1 1", "0 0 0", "9 9 9", "1 1 1 = 14"),
	} {
		expectAll(t, a)
	}
	r := rand.New(rand.NewSource(3))
	for range 12 {
		a := someTask(r, 3, between(r, 1, 4), 1)
		for i := range a.low {
			a.high[i] = a.low[i] + 9
		}
		expectAll(t, a)
	}
}

// Far corners of great boxes.
func TestGreatBoxes(t *testing.T) {
	high := "1000000 1000000 1000000"
	expectSolution(t, job("1 1 1", "0 0 0", high, "3 5 7 = 14000003"), []int{666670, 1000000, 999999}, 2666669)
	expectSolution(t, job("1 2 4", "0 0 0", high, "1 3 9 >= 12345678", "1 1 1 >= 1000001"), []int{345678, 1000000, 1000000}, 6345678)
	expectSolution(t, job("-3 7 1", "0 0 0", high, "-5 9 2 >= 1234567"), []int{153085, 0, 999996}, 540741)
}

// W4: what the linear program says is never above the least cost.
func TestRelaxation(t *testing.T) {
	r := rand.New(rand.NewSource(4))
	for range 200 {
		a := someTask(r, between(r, 1, 3), r.Intn(5), 5)
		_, cost, e := whole.Solve(a.p, a.low, a.high)
		if e == api.ErrNone {
			continue
		}
		p := a.copied().p
		for i := range a.low {
			unit := slices.Repeat([]api.Num{"0"}, len(a.low))
			unit[i] = "1"
			p.Rows = append(p.Rows, api.Row{Coef: unit, Kind: api.AtLeast, Right: num(a.low[i])}, api.Row{Coef: unit, Kind: api.AtMost, Right: num(a.high[i])})
		}
		answer, f := blend.Solve(p)
		if e != api.OK || f != api.OK || answer.Kind != api.Optimal || rat(answer.Value).Cmp(big.NewRat(int64(cost), 1)) > 0 {
			t.Errorf("Solve(%v): %d, error %d; the linear program: %v, error %d", a, cost, e, answer, f)
		}
	}
}

// Many rows: more than a linear program may have together with the box.
func TestManyRows(t *testing.T) {
	r := rand.New(rand.NewSource(5))
	for range 30 {
		n := between(r, 2, 6)
		a := someTask(r, n, 0, 3)
		point := make([]int, n)
		for i := range point {
			a.low[i]++
			a.high[i] += 2
			point[i] = between(r, a.low[i], a.high[i])
		}
		for range api.MaxLimits {
			row := api.Row{Kind: between(r, 1, 2)}
			for range n {
				row.Coef = append(row.Coef, small(r, 9))
			}
			// All rows hold at the point, most of them with equality.
			right := sum(row.Coef, point)
			if r.Intn(4) == 0 {
				right.Add(right, big.NewRat(int64(3-2*row.Kind), 3))
			}
			row.Right = api.Num(right.RatString())
			a.p.Rows = append(a.p.Rows, row)
		}
		expectAll(t, a)
	}
}

// Each row matters but a little more than the one before it, and seems to matter
// less: all of them together are more than a linear program has room for.
func TestNoRoom(t *testing.T) {
	a := job("1 0 0 0 0 0", "1 0 1 1 1 1", "90 0 2 2 2 2")
	size := big.NewInt(1)
	for k := range api.MaxLimits {
		size.Mul(size, big.NewInt(5))
		a.p.Rows = append(a.p.Rows, api.Row{Coef: nums("1 " + size.String() + " 0 0 0 0"), Kind: api.AtLeast, Right: num(k + 1)})
	}
	expectAll(t, a)
	a.high[0] = api.MaxLimits - 1
	expectAll(t, a)
	a = a.reversed()
	expectAll(t, a)
	a.high[5] = 90
	expectAll(t, a)
}

// reversed returns a task with its variables in reverse order.
func (t task) reversed() task {
	out := t.copied()
	slices.Reverse(out.p.Cost)
	slices.Reverse(out.low)
	slices.Reverse(out.high)
	for _, r := range out.p.Rows {
		slices.Reverse(r.Coef)
	}
	return out
}

// long returns a Num with that many digits above and below.
func long(r *rand.Rand, digits int) api.Num {
	some := func() *big.Int {
		limit := new(big.Int).Exp(big.NewInt(10), big.NewInt(int64(digits-1)), nil)
		return new(big.Int).Add(limit, new(big.Int).Rand(r, limit))
	}
	x := new(big.Rat).SetFrac(some(), some())
	if r.Intn(2) == 0 {
		x.Neg(x)
	}
	return api.Num(x.RatString())
}

// P1: Nums of 40 digits above and below.
func TestLongNums(t *testing.T) {
	r := rand.New(rand.NewSource(6))
	for _, rows := range []int{1, 2, 5, api.MaxLimits} {
		a := job("1 2 -1 3", "0 1 0 2", "3 4 2 4")
		for range rows {
			row := api.Row{Kind: between(r, 1, 2), Right: long(r, 40)}
			for range 4 {
				row.Coef = append(row.Coef, long(r, 40))
			}
			if holds := sum(row.Coef, []int{1, 2, 1, 3}).Cmp(rat(row.Right)); holds != 2*row.Kind-3 {
				row.Kind = 3 - row.Kind
			}
			a.p.Rows = append(a.p.Rows, row)
		}
		expectAll(t, a)
	}
	// They differ by less than a part in 10^39.
	nines := strings.Repeat("9", 40)
	a := job("1 1", "0 0", "9 9", "1 1/"+nines+" >= 5", "-1 1 >= -4")
	expectSolution(t, a, []int{5, 1}, 6)
	a = job("1 1", "0 0", "9 9", "1/"+nines+" 1/"+strings.Repeat("9", 39)+"8 <= 1/"+nines)
	expectSolution(t, a, []int{0, 0}, 0)
	a.p.Cost = nums("-1 -1")
	expectSolution(t, a, []int{1, 0}, -1)
}

// Costs at the ends of the range, and beyond. Prove has no such ends.
func TestRange(t *testing.T) {
	top, above := "4611686018427387904", "4611686018427387905"
	for _, sign := range []string{"", "-"} {
		cost := 1 << 62
		if sign == "-" {
			cost = -cost
		}
		a := job(sign+top, "1", "1")
		expectSolution(t, a, []int{1}, cost)
		prove(t, a, api.Num(sign+top))
		a = job(sign+above+" 0", "1 0", "1 5", "0 2 >= 3")
		expectSolveError(t, a, api.ErrRange)
		prove(t, a, api.Num(sign+above))
		a = job(sign+strings.Repeat("9", 40)+" 1", "999999 0", "999999 9", "1 3 >= 1000001")
		expectSolveError(t, a, api.ErrRange)
		prove(t, a, a.limit())
		// No solution comes before a cost that is out of range.
		a = job(sign+above, "1", "1", "2 = 3")
		expectSolveError(t, a, api.ErrNone)
		prove(t, a, "")
	}
	// Costs out of the range, and least ones in it.
	nines := strings.Repeat("9", 40)
	expectSolution(t, job(nines+" -"+nines, "0 0", "9 9", "1 -1 = 0"), []int{0, 0}, 0)
	expectSolution(t, job(nines+" -"+nines+" 1", "0 0 0", "9 9 9", "1 -1 0 = 0", "1 0 1 >= 15"), []int{9, 9, 6}, 6)
}

// So many boxes have no solution that they are not all examined.
func TestTooManyBoxes(t *testing.T) {
	for _, a := range []task{
		job("1 1", "0 0", "1000000 1000000", "2 2 = 1000001"),
		// A solution is found soon, but not the lexicographically least one.
		job("0 0 0", "0 0 0", "1 1000000 1000000", "1 2 2 = 1000001"),
	} {
		expectSolveError(t, a, api.ErrLong)
		if proof, e := whole.Prove(a.p, a.low, a.high); e != api.ErrLong || len(proof) > 0 {
			t.Errorf("Prove: %d nodes, error %d", len(proof), e)
		}
	}
}

// A proof has fewer nodes than boxes may be examined.
func TestTooManyNodes(t *testing.T) {
	a := job("1 1", "0 0", "20000 20000", "2 2 = 20001")
	expectSolveError(t, a, api.ErrNone)
	if proof, e := whole.Prove(a.p, a.low, a.high); e != api.ErrLong || len(proof) > 0 {
		t.Errorf("Prove: %d nodes, error %d", len(proof), e)
	}
}

func TestCount(t *testing.T) {
	for _, c := range []struct {
		a    task
		want int
	}{
		{job("5", "7", "7"), 1}, {job("0", "0", "99999"), 100000}, {job("0 0", "0 1", "99999 1", "2 0 >= 99999"), 50000},
		{job("0 0 0", "0 0 0", "9 99 99", "1 1 1 <= 2"), 10}, {job("1", "3", "9", "1 = 10"), 0}, {job("1", "3", "9", "0 <= -1"), 0},
		{job("0 0 0 0 0 0", "0 0 0 0 0 0", "1 1 1 1 1 1", "1 1 1 1 1 1 = 3"), 20}, {job("1", "0", "10", "1/3 >= 2/3", "1/7 <= 1"), 6},
	} {
		if got, e := whole.Count(c.a.p, c.a.low, c.a.high); got != c.want || e != api.OK {
			t.Errorf("Count(%v) = %d, error %d, want %d", c.a, got, e, c.want)
		}
	}
	most := "1000000 1000000 1000000 1000000 1000000 1000000"
	for _, a := range []task{job("0", "0", "100000"), job("0 0", "0 0", "316 316"), job("0 0 0 0 0 0", "0 0 0 0 0 0", most), job("0", "0", "1000000", "1 = -1")} {
		if got, e := whole.Count(a.p, a.low, a.high); got != 0 || e != api.ErrLong {
			t.Errorf("Count(%v) = %d, error %d", a, got, e)
		}
	}
}
