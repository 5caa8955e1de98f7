package whole_test

import (
	"math/big"
	"math/rand"
	"slices"
	"strconv"
	"strings"
	"testing"

	"cracknel/api"
	"cracknel/whole"
)

// A task is a whole program.
type task struct {
	p         api.Program
	low, high []int
}

// nums reads Nums that are separated by blanks.
func nums(s string) []api.Num {
	out := []api.Num{}
	for _, x := range strings.Fields(s) {
		out = append(out, api.Num(x))
	}
	return out
}

// ints reads integers that are separated by blanks.
func ints(s string) []int {
	out := []int{}
	for _, x := range strings.Fields(s) {
		n, err := strconv.Atoi(x)
		if err != nil {
			panic(err)
		}
		out = append(out, n)
	}
	return out
}

func kindOf(sign api.Num) int {
	return 1 + slices.Index([]api.Num{"<=", ">=", "="}, sign)
}

// job reads a whole program: costs, both ends of the box, and rows such as
// "1 1 >= 4".
func job(cost, low, high string, rows ...string) task {
	t := task{api.Program{Cost: nums(cost)}, ints(low), ints(high)}
	for _, text := range rows {
		words := nums(text)
		n := len(words) - 2
		t.p.Rows = append(t.p.Rows, api.Row{Coef: words[:n:n], Kind: kindOf(words[n]), Right: words[n+1]})
	}
	return t
}

func (t task) copied() task {
	out := task{api.Program{Cost: slices.Clone(t.p.Cost)}, slices.Clone(t.low), slices.Clone(t.high)}
	for _, r := range t.p.Rows {
		r.Coef = slices.Clone(r.Coef)
		out.p.Rows = append(out.p.Rows, r)
	}
	return out
}

func num(n int) api.Num { return api.Num(strconv.Itoa(n)) }

func rat(x api.Num) *big.Rat {
	out, ok := new(big.Rat).SetString(string(x))
	if !ok {
		panic("no number: " + string(x))
	}
	return out
}

// sum returns the sum of products.
func sum(a []api.Num, x []int) *big.Rat {
	out := new(big.Rat)
	for i, c := range a {
		out.Add(out, new(big.Rat).Mul(rat(c), big.NewRat(int64(x[i]), 1)))
	}
	return out
}

// The oracle: all points of a box, one by one.

func (t task) holds(x []int) bool {
	return !slices.ContainsFunc(t.p.Rows, func(r api.Row) bool {
		order := sum(r.Coef, x).Cmp(rat(r.Right))
		return order < 0 && r.Kind != api.AtMost || order > 0 && r.Kind != api.AtLeast
	})
}

// solutions returns all solutions, lexicographically rising.
func (t task) solutions() [][]int {
	var out [][]int
	x := slices.Clone(t.low)
	for {
		if t.holds(x) {
			out = append(out, slices.Clone(x))
		}
		i := len(x) - 1
		for i >= 0 && x[i] == t.high[i] {
			x[i] = t.low[i]
			i--
		}
		if i < 0 {
			return out
		}
		x[i]++
	}
}

// cheapest returns the solution that Solve is to find, and its cost, or nil.
func (t task) cheapest() ([]int, *big.Rat) {
	var best []int
	var least *big.Rat
	for _, x := range t.solutions() {
		if cost := sum(t.p.Cost, x); best == nil || cost.Cmp(least) < 0 {
			best, least = x, cost
		}
	}
	return best, least
}

// limit returns what a proof is to show: the least cost, or nothing if there is
// no solution.
func (t task) limit() api.Num {
	if _, least := t.cheapest(); least != nil {
		return api.Num(least.RatString())
	}
	return ""
}

// The definition of proofs.

// bound returns what the multipliers of a node prove for a box with these costs.
func (t task) bound(n api.Node, cost []api.Num) *big.Rat {
	out := new(big.Rat)
	for k, r := range t.p.Rows {
		out.Add(out, new(big.Rat).Mul(rat(n.Y[k]), rat(r.Right)))
	}
	for i := range cost {
		rest := rat(cost[i])
		for k, r := range t.p.Rows {
			rest.Sub(rest, new(big.Rat).Mul(rat(n.Y[k]), rat(r.Coef[i])))
		}
		atLow := new(big.Rat).Mul(rest, big.NewRat(int64(t.low[i]), 1))
		atHigh := new(big.Rat).Mul(rest, big.NewRat(int64(t.high[i]), 1))
		if atLow.Cmp(atHigh) > 0 {
			atLow = atHigh
		}
		out.Add(out, atLow)
	}
	return out
}

func (t task) haveSigns(y []api.Num) bool {
	if len(y) != len(t.p.Rows) {
		return false
	}
	for k, r := range t.p.Rows {
		sign := rat(y[k]).Sign()
		if r.Kind == api.AtMost && sign > 0 || r.Kind == api.AtLeast && sign < 0 {
			return false
		}
	}
	return true
}

// rest returns what follows the first proof in nodes; it appends its bounds. It
// returns false if there is no proof.
func (t task) rest(nodes []api.Node, bounds *[]*big.Rat) ([]api.Node, bool) {
	if len(nodes) == 0 {
		return nil, false
	}
	n, nodes := nodes[0], nodes[1:]
	if n.Kind == api.Split {
		if n.Var < 0 || n.Var >= len(t.low) || n.At < t.low[n.Var] || n.At >= t.high[n.Var] || len(n.Y) > 0 {
			return nil, false
		}
		first, second := t.copied(), t.copied()
		first.high[n.Var], second.low[n.Var] = n.At, n.At+1
		nodes, ok := first.rest(nodes, bounds)
		if !ok {
			return nil, false
		}
		return second.rest(nodes, bounds)
	}
	if n.Var != 0 || n.At != 0 || !t.haveSigns(n.Y) {
		return nil, false
	}
	switch n.Kind {
	case api.Bound:
		*bounds = append(*bounds, t.bound(n, t.p.Cost))
		return nodes, true
	case api.Empty:
		return nodes, t.bound(n, slices.Repeat([]api.Num{"0"}, len(t.low))).Sign() > 0
	}
	return nil, false
}

// shows is the definition of a proof that shows a limit.
func (t task) shows(limit api.Num, nodes []api.Node) bool {
	var bounds []*big.Rat
	nodes, ok := t.rest(nodes, &bounds)
	if !ok || len(nodes) > 0 {
		return false
	}
	if limit == "" {
		return len(bounds) == 0
	}
	below := new(big.Rat).Sub(rat(limit), big.NewRat(1, 1))
	return !slices.ContainsFunc(bounds, func(bound *big.Rat) bool { return bound.Cmp(below) <= 0 })
}

// What tests expect.

func expectSolution(t *testing.T, a task, x []int, cost int) {
	t.Helper()
	got, value, e := whole.Solve(a.p, a.low, a.high)
	if e != api.OK || !slices.Equal(got, x) || value != cost {
		t.Errorf("Solve(%v) = %v, %d, error %d, want %v, %d", a, got, value, e, x, cost)
	}
}

func expectSolveError(t *testing.T, a task, want api.Errno) {
	t.Helper()
	if x, cost, e := whole.Solve(a.p, a.low, a.high); e != want || len(x) > 0 || cost != 0 {
		t.Errorf("Solve(%v) = %v, %d, error %d, want %d", a, x, cost, e, want)
	}
}

func expectShows(t *testing.T, a task, limit api.Num, proof []api.Node, want bool) {
	t.Helper()
	if got, e := whole.Shows(a.p, a.low, a.high, limit, proof); got != want || e != api.OK {
		t.Errorf("Shows(%v, %q, %v) = %t, error %d, want %t", a, limit, proof, got, e, want)
	}
}

// prove returns a proof, after it was checked by the definition and by Shows.
func prove(t *testing.T, a task, limit api.Num) []api.Node {
	t.Helper()
	proof, e := whole.Prove(a.p, a.low, a.high)
	if e != api.OK || len(proof) > api.MaxNodes {
		t.Fatalf("Prove(%v): %d nodes, error %d", a, len(proof), e)
	}
	if !a.shows(limit, proof) {
		t.Fatalf("Prove(%v) = %v is no proof of %q", a, proof, limit)
	}
	expectShows(t, a, limit, proof, true)
	return proof
}

// expectAll expects of all functions what the oracle says.
func expectAll(t *testing.T, a task) {
	t.Helper()
	x, least := a.cheapest()
	limit := a.limit()
	if x == nil {
		expectSolveError(t, a, api.ErrNone)
	} else {
		expectSolution(t, a, x, int(least.Num().Int64()))
	}
	prove(t, a, limit)
	if got, e := whole.Count(a.p, a.low, a.high); got != len(a.solutions()) || e != api.OK {
		t.Errorf("Count(%v) = %d, error %d, want %d", a, got, e, len(a.solutions()))
	}
}

// Random whole programs.

func between(r *rand.Rand, low, high int) int { return low + r.Intn(high-low+1) }

// small returns mostly small integers, and some fractions.
func small(r *rand.Rand, limit int) api.Num {
	x := big.NewRat(int64(between(r, -limit, limit)), 1)
	if r.Intn(6) == 0 {
		x.Quo(x, big.NewRat(int64(between(r, 1, 5)), 1))
	}
	return api.Num(x.RatString())
}

// someTask returns a whole program with few points; many of its rows hold with
// equality at one point of the box.
func someTask(r *rand.Rand, variables, rows, width int) task {
	var a task
	point := make([]int, variables)
	limit := between(r, 1, 8)
	for i := range variables {
		low := r.Intn(4)
		high := low + r.Intn(width)
		a.low, a.high = append(a.low, low), append(a.high, high)
		point[i] = between(r, low, high)
		a.p.Cost = append(a.p.Cost, num(between(r, -limit/2, limit)))
	}
	for range rows {
		row := api.Row{Kind: between(r, 1, 3)}
		for range variables {
			row.Coef = append(row.Coef, small(r, limit))
		}
		right := sum(row.Coef, point)
		if r.Intn(2) == 0 {
			right.Add(right, rat(small(r, 3)))
		}
		row.Right = api.Num(right.RatString())
		a.p.Rows = append(a.p.Rows, row)
	}
	return a
}
