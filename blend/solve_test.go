package blend_test

import (
	"math/big"
	"math/rand"
	"slices"
	"strconv"
	"testing"

	"cracknel/api"
	"cracknel/blend"
)

func TestExamplesOfSolve(t *testing.T) {
	p := prog("2 3", "1 1 >= 4", "1 0 <= 3")
	expectX(t, p, "3 1", "9")
	if a := solve(t, p); !slices.Equal(a.Y, vec("3 -1")) {
		t.Errorf("Y = %v", a.Y)
	}
	expectKind(t, prog("1", "1 >= 2", "1 <= 1"), api.Infeasible)
	expectKind(t, prog("-1"), api.Unbounded)
	expectX(t, prog("1 1", "1 1 = 5"), "0 5", "5")
}

func TestOneVariable(t *testing.T) {
	expectX(t, prog("0"), "0", "0")
	expectX(t, prog("7/3"), "0", "0")
	expectX(t, prog("5", "2 >= 7"), "7/2", "35/2")
	expectX(t, prog("-5", "2 <= 7"), "7/2", "-35/2")
	expectX(t, prog("-5", "-2 >= -7"), "7/2", "-35/2")
	expectX(t, prog("-5", "2 = 7"), "7/2", "-35/2")
	expectX(t, prog("0", "2 >= 7", "1 <= 8"), "7/2", "0")
	expectX(t, prog("1", "-1 <= 3"), "0", "0")
	expectX(t, prog("3", "-1 = 0"), "0", "0")
	expectX(t, prog("-1/2", "1/3 <= 1/7", "1 <= 5"), "3/7", "-3/14")
	expectX(t, prog("1", "1 >= 2", "1 <= 2"), "2", "2")
	for _, row := range []string{"1 <= -1", "-1 >= 1", "1 = -2", "0 >= 1", "0 <= -1", "0 = 1/9"} {
		expectKind(t, prog("0", row), api.Infeasible)
		expectKind(t, prog("-1", row), api.Infeasible)
		expectKind(t, prog("1", "1 <= 9", row), api.Infeasible)
	}
	for _, row := range []string{"1 >= 1", "-1 <= 1", "0 <= 1", "0 >= -1", "0 = 0", "1 >= -5"} {
		expectKind(t, prog("-1", row), api.Unbounded)
	}
}

func TestNoRowsAndOneRow(t *testing.T) {
	expectX(t, prog("0 1 2"), "0 0 0", "0")
	expectKind(t, prog("0 1 -1/9"), api.Unbounded)
	expectX(t, prog("1 2 3", "3 2 1 >= 6"), "2 0 0", "2")
	expectX(t, prog("-1 -2 -3", "3 2 1 <= 6"), "0 0 6", "-18")
	expectX(t, prog("-3 -2 -1", "3 2 1 = 6"), "0 0 6", "-6")
	expectX(t, prog("-3 -3 -1", "3 2 1 = 6"), "0 3 0", "-9")
	expectX(t, prog("0 0 0", "3 2 1 = 6"), "0 0 6", "0")
	expectX(t, prog("0 0 0", "3 2 0 >= 1"), "0 1/2 0", "0")
	expectX(t, prog("1 1", "-1 1 = 0"), "0 0", "0")
	expectX(t, prog("1 -1", "-1 1 = 3"), "0 3", "-3")
	expectKind(t, prog("1 -2", "-1 1 = 3"), api.Unbounded)
	expectKind(t, prog("-1 0", "0 1 <= 3"), api.Unbounded)
}

func TestRowsThatRepeatOrAreZero(t *testing.T) {
	expectX(t, prog("1 1", "1 2 >= 4", "1 2 >= 4", "2 4 >= 8", "1/3 2/3 >= 4/3"), "0 2", "2")
	expectX(t, prog("1 1", "1 2 = 4", "1 2 = 4", "-1 -2 = -4"), "0 2", "2")
	expectX(t, prog("1 1", "1 2 = 4", "1 2 >= 4", "1 2 <= 4", "0 0 = 0"), "0 2", "2")
	expectX(t, prog("-1 -1", "0 0 <= 0", "1 1 <= 1", "0 0 >= 0", "0 0 = 0", "0 0 <= 1", "0 0 >= -1"), "0 1", "-1")
	expectKind(t, prog("1 1", "1 2 = 4", "1 2 = 5"), api.Infeasible)
	expectKind(t, prog("1 1", "1 2 = 4", "2 4 = 7"), api.Infeasible)
	expectKind(t, prog("1 1", "1 2 >= 4", "1 2 <= 3"), api.Infeasible)
	expectKind(t, prog("-1 -1", "1 1 <= 1", "0 0 >= 1"), api.Infeasible)
}

// Of several optima it is the lexicographically least one.
func TestTies(t *testing.T) {
	expectX(t, prog("0 0 0", "1 1 1 >= 1", "1 1 1 <= 2"), "0 0 1", "0")
	expectX(t, prog("1 1 1", "1 1 1 = 6", "1 0 0 >= 1", "0 1 0 <= 2", "0 0 1 <= 2"), "2 2 2", "6")
	expectX(t, prog("-1 -1", "1 1 <= 5", "0 1 <= 3"), "2 3", "-5")
	expectX(t, prog("2 1", "2 1 >= 3", "0 1 <= 1"), "1 1", "3")
	expectX(t, prog("0 -1", "0 1 <= 1", "1 0 >= 1/2"), "1/2 1", "-1")
	expectX(t, prog("0 0 -1", "1 -1 1 <= 1", "-1 1 1 <= 1"), "0 0 1", "-1")
	expectX(t, prog("0 1 0", "1 0 -1 = 2", "0 1 1 >= 3"), "5 0 3", "0")
	// The optima have no end, and the least of them has another one behind it.
	expectX(t, prog("1 -1 0", "-1 1 0 <= 2", "1 0 1 >= 4"), "0 2 4", "-2")
}

// Programs on which some rules for the simplex method go round in circles.
func TestDegeneratePrograms(t *testing.T) {
	beale := prog("-3/4 20 -1/2 6", "1/4 -8 -1 9 <= 0", "1/2 -12 -1/2 3 <= 0", "0 0 1 0 <= 1")
	expectX(t, beale, "1 0 1 0", "-5/4")
	kuhn := prog("-2 -3 1 12", "-2 -9 1 9 <= 0", "1/3 1 -1/3 -2 <= 0", "2 3 -1 -12 <= 2")
	expectX(t, kuhn, "2 0 2 0", "-2")
	expectKind(t, prog("-2 -3 1 12", "-2 -9 1 9 <= 0", "1/3 1 -1/3 -2 <= 0"), api.Unbounded)
	expectX(t, prog("-10 57 9 24", "1/2 -11/2 -5/2 9 <= 0", "1/2 -3/2 -1/2 1 <= 0", "1 0 0 0 <= 1"), "1 0 1 0", "-1")
	marshall := prog("-2/5 -2/5 9/5", "3/5 -32/5 24/5 <= 0", "1/5 -9/5 3/5 <= 0", "2/5 -8/5 1/5 <= 0", "0 1 0 <= 1")
	expectX(t, marshall, "4 1 0", "-2")
	// All rows meet in one point.
	expectX(t, prog("1 1", "1 1 >= 2", "2 1 >= 3", "1 2 >= 3", "1 0 >= 1", "0 1 >= 1", "3 5 >= 8", "1 -1 = 0"), "1 1", "2")
	expectX(t, prog("-1 -1 -1", "1 0 0 <= 0", "0 1 0 <= 0", "0 0 1 <= 0", "1 1 1 <= 0", "1 2 3 <= 0"), "0 0 0", "0")
}

// cube returns the program of Klee and Minty, on which the simplex method with
// some rules visits 2^n points, and the program that is dual to it.
func cube(n int) (api.Program, api.Program) {
	power := func(base, exponent int) api.Num {
		return num(new(big.Rat).SetInt(new(big.Int).Exp(big.NewInt(int64(base)), big.NewInt(int64(exponent)), nil)))
	}
	var p, dual api.Program
	for i := range n {
		row := api.Row{Kind: api.AtMost, Right: power(5, i+1), Coef: slices.Repeat([]api.Num{"0"}, n)}
		for j := range i {
			row.Coef[j] = power(2, i-j+1)
		}
		row.Coef[i] = "1"
		p.Rows = append(p.Rows, row)
		p.Cost = append(p.Cost, "-"+power(2, n-1-i))
		dual.Cost = append(dual.Cost, row.Right)
	}
	for j := range n {
		row := api.Row{Kind: api.AtLeast, Right: power(2, n-1-j)}
		for i := range n {
			row.Coef = append(row.Coef, p.Rows[i].Coef[j])
		}
		dual.Rows = append(dual.Rows, row)
	}
	return p, dual
}

func TestCubes(t *testing.T) {
	for n := 1; n <= api.MaxVars; n++ {
		p, dual := cube(n)
		a, b := solve(t, p), solve(t, dual)
		value := new(big.Int).Exp(big.NewInt(5), big.NewInt(int64(n)), nil).String()
		if a.Kind != api.Optimal || string(a.Value) != "-"+value || b.Kind != api.Optimal || string(b.Value) != value {
			t.Errorf("cube of %d: %v, %v", n, a, b)
		}
	}
}

// All outcomes of small programs are those of the oracle.
func TestAgainstCorners(t *testing.T) {
	r := rand.New(rand.NewSource(1))
	var seen [4]int
	for range 6000 {
		variables, rows := 1+r.Intn(4), r.Intn(6)
		p := someProgram(r, variables, rows)
		want, got := plainOf(p).outcome(), solve(t, p)
		seen[got.Kind]++
		if got.Kind != want.kind {
			t.Fatalf("Solve(%v) = %v, want kind %d", p, got, want.kind)
		}
		if want.kind == api.Optimal && (!slices.Equal(got.X, nums(want.x)) || got.Value != num(want.value)) {
			t.Fatalf("Solve(%v) = %v, want %v", p, got, nums(want.x))
		}
	}
	if slices.Min(seen[1:]) < 600 {
		t.Errorf("the programs are too much alike: %v", seen)
	}
}

// expectLeast proves that no optimum is lexicographically less: for each
// variable in turn its value is the least one, given those before it.
func expectLeast(t *testing.T, p api.Program, a api.Answer) {
	t.Helper()
	q := copied(p)
	q.Rows = append(q.Rows, api.Row{Coef: slices.Clone(p.Cost), Kind: api.Equal, Right: a.Value})
	for i := range p.Cost {
		unit := slices.Repeat([]api.Num{"0"}, len(p.Cost))
		unit[i] = "1"
		q.Cost = unit
		if b := solve(t, q); b.Kind != api.Optimal || b.Value != a.X[i] {
			t.Fatalf("Solve(%v) = %v: variable %d may be %s", p, a, i, b.Value)
		}
		q.Rows = append(q.Rows, api.Row{Coef: unit, Kind: api.Equal, Right: a.X[i]})
	}
}

func TestLargerPrograms(t *testing.T) {
	r := rand.New(rand.NewSource(2))
	for range 150 {
		variables, rows := 5+r.Intn(4), 3+r.Intn(10)
		p := someProgram(r, variables, rows)
		if a := solve(t, p); a.Kind == api.Optimal {
			expectLeast(t, p, a)
		}
	}
}

// flow returns a program whose costs are 0 or equal and whose numbers are 0 and
// 1: it has many optima, and at each of them more rows meet than are needed.
func flow(r *rand.Rand, n, total int) api.Program {
	p := api.Program{Cost: slices.Repeat([]api.Num{api.Num(strconv.Itoa(r.Intn(2)))}, n*n)}
	for i := range n {
		from, to := slices.Repeat([]api.Num{"0"}, n*n), slices.Repeat([]api.Num{"0"}, n*n)
		for j := range n {
			from[i*n+j], to[j*n+i] = "1", "1"
		}
		right := api.Num(strconv.Itoa(total))
		p.Rows = append(p.Rows, api.Row{Coef: from, Kind: api.Equal, Right: right}, api.Row{Coef: to, Kind: api.Equal, Right: right})
	}
	return p
}

func TestFlows(t *testing.T) {
	r := rand.New(rand.NewSource(3))
	for n := 1; n <= 5; n++ {
		p := flow(r, n, 7)
		a := solve(t, p)
		// The least one has all of it on the diagonal from corner to corner.
		for i, x := range a.X {
			want := api.Num("0")
			if i/n == n-1-i%n {
				want = "7"
			}
			if x != want {
				t.Errorf("flow of %d: %v", n, a.X)
			}
		}
		expectLeast(t, p, a)
		p.Rows[0].Right = "8"
		expectKind(t, p, api.Infeasible)
	}
}

// As many variables, rows and digits as there may be.
func TestProgramsAtTheLimits(t *testing.T) {
	r := rand.New(rand.NewSource(4))
	for _, isTame := range []bool{false, true} {
		for _, size := range []int{1, 3, 40} {
			solve(t, longProgram(r, api.MaxVars, api.MaxLimits, size, 0, isTame))
		}
		solve(t, longProgram(r, api.MaxVars, api.MaxLimits, 2, 1, isTame))
		solve(t, longProgram(r, 8, 12, 6, 6, isTame))
		solve(t, longProgram(r, 9, 10, 40, 40, isTame))
		solve(t, longProgram(r, api.MaxVars, 1, 40, 40, isTame))
		solve(t, longProgram(r, 1, api.MaxLimits, 40, 40, isTame))
	}
	// A program of many equations, with one solution.
	p := longProgram(r, 24, 24, 3, 0, true)
	x := make([]*big.Rat, 24)
	for i := range x {
		x[i] = big.NewRat(int64(r.Intn(1000)), int64(1+r.Intn(9)))
	}
	for k := range p.Rows {
		p.Rows[k].Kind, p.Rows[k].Right = api.Equal, num(dot(rats(p.Rows[k].Coef), x))
	}
	if a := solve(t, p); a.Kind != api.Optimal || !slices.Equal(a.X, nums(x)) {
		t.Errorf("the solution is %v, not %v", a.X, nums(x))
	}
}

// ErrRange does not occur for programs of at most 8 variables and 12 rows whose
// Nums have at most 6 digits.
func TestDigitsOfMiddlingPrograms(t *testing.T) {
	r := rand.New(rand.NewSource(5))
	for i := range 200 {
		p := longProgram(r, 8, 12, 6, 6, i%2 == 0)
		solve(t, p)
		for _, i := range []int{0, 7} {
			if _, _, e := blend.Spread(p, i); e != api.OK && e != api.ErrNone {
				t.Fatalf("Spread(%v, %d): error %d", p, i, e)
			}
		}
	}
}

// chain returns a program of equations, whose solution begins with 1 and gets
// longer from variable to variable, and that solution.
func chain(n int) (api.Program, []*big.Rat) {
	p := api.Program{Cost: slices.Repeat([]api.Num{"0"}, n)}
	var x []*big.Rat
	nextLong := longPrimePowers()
	for k := range n {
		row := api.Row{Coef: slices.Repeat([]api.Num{"0"}, n), Kind: api.Equal, Right: "0"}
		if k == 0 {
			row.Right = "1"
		}
		for j := range k {
			row.Coef[j] = "-1/" + nextLong()
		}
		x = append(x, new(big.Rat).Sub(rat(row.Right), dot(rats(row.Coef[:k]), x)))
		row.Coef[k] = "1"
		p.Rows = append(p.Rows, row)
	}
	return p, x
}

// longPrimePowers returns a function that returns powers of one prime after the
// other, each one as long as it may be.
func longPrimePowers() func() api.Num {
	prime := big.NewInt(5)
	return func() api.Num {
		for prime.Add(prime, big.NewInt(1)); !prime.ProbablyPrime(9); prime.Add(prime, big.NewInt(1)) {
		}
		power := new(big.Int).Set(prime)
		for {
			next := new(big.Int).Mul(power, prime)
			if len(next.String()) > 40 {
				return api.Num(power.String())
			}
			power = next
		}
	}
}

func sizeOf(x *big.Rat) int { return max(len(x.Num().String()), len(x.Denom().String())) }

// longestChain returns the longest chain whose solution is not too long.
func longestChain() (api.Program, []*big.Rat) {
	n := 2
	for _, x := chain(n); sizeOf(x[n-1]) <= api.MaxDigits; _, x = chain(n) {
		n++
	}
	return chain(n - 1)
}

// lengthened returns a program with more variables; the last one is the last one
// of before, divided by a power of ten.
func lengthened(p api.Program, x []*big.Rat, zeros int) (api.Program, []*big.Rat) {
	p, x = copied(p), slices.Clone(x)
	for ; zeros > 0; zeros -= 39 {
		part, n := min(39, zeros), len(x)
		for k := range p.Rows {
			p.Rows[k].Coef = append(p.Rows[k].Coef, "0")
		}
		p.Cost = append(p.Cost, "0")
		row := api.Row{Coef: slices.Repeat([]api.Num{"0"}, n+1), Kind: api.Equal, Right: "0"}
		row.Coef[n-1], row.Coef[n] = api.Num("-1/1"+digits(part, "0")), "1"
		p.Rows = append(p.Rows, row)
		x = append(x, new(big.Rat).Neg(new(big.Rat).Mul(x[n-1], rat(row.Coef[n-1]))))
	}
	return p, x
}

func expectRange(t *testing.T, p api.Program) {
	t.Helper()
	a, e := blend.Solve(p)
	if e != api.ErrRange || a.Kind != 0 || a.Value != "" || len(a.X)+len(a.Y)+len(a.Ray) > 0 {
		t.Errorf("Solve of a program with a result of too many digits: error %d, kind %d", e, a.Kind)
	}
}

// A result of MaxDigits digits is exact; one of more digits is refused.
func TestDigitsOfResults(t *testing.T) {
	p, x := longestChain()
	missing := api.MaxDigits - sizeOf(x[len(x)-1])
	seen := map[int]bool{}
	for zeros := missing - 2; zeros <= missing+6; zeros++ {
		q, y := lengthened(p, x, zeros)
		size := sizeOf(y[len(y)-1])
		seen[size] = true
		if size > api.MaxDigits {
			expectRange(t, q)
		} else if a := solve(t, q); !slices.Equal(a.X, nums(y)) || a.Value != "0" {
			t.Errorf("Solve of a program with a solution of %d digits: %v", size, a)
		}
		// What is no result may have as many digits as it likes.
		last := api.Num("")
		if size <= api.MaxDigits {
			last = num(y[len(y)-1])
		}
		for i, want := range []api.Num{"1", last} {
			low, high, e := blend.Spread(q, i*(len(y)-1))
			if want == "" && (e != api.ErrRange || low != "" || high != "") || want != "" && (e != api.OK || low != want || high != want) {
				t.Errorf("Spread of a solution of %d digits: error %d", size, e)
			}
		}
	}
	if !seen[api.MaxDigits] || !seen[api.MaxDigits+1] {
		t.Errorf("no results at the limit: %v", seen)
	}
}

// The cost alone is too long.
func TestDigitsOfTheCost(t *testing.T) {
	nextLong := longPrimePowers()
	for _, blocks := range []int{12, 16} {
		n := 2 * blocks
		p := api.Program{}
		for b := range blocks {
			first, second := slices.Repeat([]api.Num{"0"}, n), slices.Repeat([]api.Num{"0"}, n)
			first[2*b] = nextLong()
			second[2*b], second[2*b+1] = "-1/"+nextLong(), nextLong()
			p.Rows = append(p.Rows, api.Row{Coef: first, Kind: api.Equal, Right: "1/" + nextLong()})
			p.Rows = append(p.Rows, api.Row{Coef: second, Kind: api.Equal, Right: "1/" + nextLong()})
			p.Cost = append(p.Cost, "1/"+nextLong(), "1/"+nextLong())
		}
		if blocks == 12 {
			solve(t, p)
			continue
		}
		expectRange(t, p)
		for i := range n {
			if _, _, e := blend.Spread(p, i); e != api.OK {
				t.Errorf("Spread: error %d", e)
			}
		}
	}
}
