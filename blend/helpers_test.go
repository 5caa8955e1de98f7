package blend_test

import (
	"math/big"
	"math/rand"
	"slices"
	"strconv"
	"strings"
	"testing"

	"cracknel/api"
	"cracknel/blend"
)

// vec reads a vector: Nums that are separated by blanks.
func vec(s string) []api.Num {
	out := []api.Num{}
	for _, x := range strings.Fields(s) {
		out = append(out, api.Num(x))
	}
	return out
}

// prog reads a program: its costs, and rows such as "1 1 >= 4".
func prog(cost string, rows ...string) api.Program {
	p := api.Program{Cost: vec(cost)}
	for _, text := range rows {
		words := vec(text)
		n := len(words) - 2
		kind := map[api.Num]int{"<=": api.AtMost, ">=": api.AtLeast, "=": api.Equal}[words[n]]
		p.Rows = append(p.Rows, api.Row{Coef: words[:n:n], Kind: kind, Right: words[n+1]})
	}
	return p
}

func copied(p api.Program) api.Program {
	out := api.Program{Cost: slices.Clone(p.Cost)}
	for _, r := range p.Rows {
		out.Rows = append(out.Rows, api.Row{Coef: slices.Clone(r.Coef), Kind: r.Kind, Right: r.Right})
	}
	return out
}

func digits(n int, d string) string { return strings.Repeat(d, n) }

func rat(x api.Num) *big.Rat {
	out, ok := new(big.Rat).SetString(string(x))
	if !ok {
		panic("no number: " + string(x))
	}
	return out
}

func num(x *big.Rat) api.Num { return api.Num(x.RatString()) }

func rats(v []api.Num) []*big.Rat {
	out := make([]*big.Rat, len(v))
	for i, x := range v {
		out[i] = rat(x)
	}
	return out
}

func nums(v []*big.Rat) []api.Num {
	out := make([]api.Num, len(v))
	for i, x := range v {
		out[i] = num(x)
	}
	return out
}

func dot(a, b []*big.Rat) *big.Rat {
	out := new(big.Rat)
	for i := range a {
		out.Add(out, new(big.Rat).Mul(a[i], b[i]))
	}
	return out
}

// times returns all elements multiplied by a number.
func times(v []api.Num, factor *big.Rat) []api.Num {
	out := make([]api.Num, len(v))
	for i, x := range v {
		out[i] = num(new(big.Rat).Mul(rat(x), factor))
	}
	return out
}

// A plain program is a program in big.Rats: the oracle of the tests.
type plain struct {
	cost  []*big.Rat
	coef  [][]*big.Rat
	kind  []int
	right []*big.Rat
}

func plainOf(p api.Program) plain {
	out := plain{cost: rats(p.Cost)}
	for _, r := range p.Rows {
		out.coef = append(out.coef, rats(r.Coef))
		out.kind = append(out.kind, r.Kind)
		out.right = append(out.right, rat(r.Right))
	}
	return out
}

// isKind reports whether a sign is as the kind of a row says.
func isKind(kind, sign int) bool {
	return sign == 0 || sign < 0 && kind == api.AtMost || sign > 0 && kind == api.AtLeast
}

// holds reports whether x is feasible or, if it is a direction, whether it is
// one in which there is no end.
func (p plain) holds(x []*big.Rat, isDirection bool) bool {
	for _, value := range x {
		if value.Sign() < 0 {
			return false
		}
	}
	for k := range p.coef {
		gap := dot(p.coef[k], x)
		if !isDirection {
			gap.Sub(gap, p.right[k])
		}
		if !isKind(p.kind[k], gap.Sign()) {
			return false
		}
	}
	return true
}

// proves reports whether y has the right signs, and columns of at most limits.
func (p plain) proves(y, limits []*big.Rat) bool {
	for k := range y {
		if p.kind[k] != api.Equal && !isKind(p.kind[k], y[k].Sign()) {
			return false
		}
	}
	for i := range limits {
		sum := new(big.Rat)
		for k := range y {
			sum.Add(sum, new(big.Rat).Mul(y[k], p.coef[k][i]))
		}
		if sum.Cmp(limits[i]) > 0 {
			return false
		}
	}
	return true
}

func zeros(n int) []*big.Rat {
	out := make([]*big.Rat, n)
	for i := range out {
		out[i] = new(big.Rat)
	}
	return out
}

// isRight is the definition of a right answer.
func (p plain) isRight(a api.Answer) bool {
	n, m := len(p.cost), len(p.coef)
	switch a.Kind {
	case api.Optimal:
		if len(a.X) != n || len(a.Y) != m || len(a.Ray) != 0 || a.Value == "" {
			return false
		}
		x, y, value := rats(a.X), rats(a.Y), rat(a.Value)
		return p.holds(x, false) && p.proves(y, p.cost) && dot(p.cost, x).Cmp(value) == 0 && dot(y, p.right).Cmp(value) == 0
	case api.Infeasible:
		if len(a.X) != 0 || len(a.Y) != m || len(a.Ray) != 0 || a.Value != "" {
			return false
		}
		y := rats(a.Y)
		return p.proves(y, zeros(n)) && dot(y, p.right).Sign() > 0
	case api.Unbounded:
		if len(a.X) != n || len(a.Y) != 0 || len(a.Ray) != n || a.Value != "" {
			return false
		}
		return p.holds(rats(a.X), false) && p.holds(rats(a.Ray), true) && dot(p.cost, rats(a.Ray)).Sign() < 0
	}
	return false
}

// solve solves a program that is not refused, and checks that the answer is
// right, by the oracle and by Right.
func solve(t *testing.T, p api.Program) api.Answer {
	t.Helper()
	a, e := blend.Solve(p)
	if e != api.OK {
		t.Fatalf("Solve(%v): error %d", p, e)
	}
	if !plainOf(p).isRight(a) {
		t.Fatalf("Solve(%v) = %v is not right", p, a)
	}
	if ok, e := blend.Right(p, a); !ok || e != api.OK {
		t.Fatalf("Right(%v, %v) = %t, %d", p, a, ok, e)
	}
	return a
}

// expectX expects an optimum.
func expectX(t *testing.T, p api.Program, x, value string) {
	t.Helper()
	a := solve(t, p)
	if a.Kind != api.Optimal || !slices.Equal(a.X, vec(x)) || a.Value != api.Num(value) {
		t.Errorf("Solve(%v) = %v, want %s and %s", p, a, x, value)
	}
}

func expectKind(t *testing.T, p api.Program, kind int) {
	t.Helper()
	if a := solve(t, p); a.Kind != kind {
		t.Errorf("Solve(%v) = %v, want kind %d", p, a, kind)
	}
}

// Corners of small programs: what no method of solving is needed for.

// solution returns the only solution of linear equations, or nil.
func solution(rows [][]*big.Rat, n int) []*big.Rat {
	m := make([][]*big.Rat, len(rows))
	for i, row := range rows {
		for _, x := range row {
			m[i] = append(m[i], new(big.Rat).Set(x))
		}
	}
	for c := range n {
		pivot := slices.IndexFunc(m[c:], func(row []*big.Rat) bool { return row[c].Sign() != 0 })
		if pivot < 0 {
			return nil
		}
		m[c], m[c+pivot] = m[c+pivot], m[c]
		for i := range m {
			if i == c {
				continue
			}
			factor := new(big.Rat).Quo(m[i][c], m[c][c])
			for j := range m[i] {
				m[i][j].Sub(m[i][j], new(big.Rat).Mul(factor, m[c][j]))
			}
		}
	}
	out := make([]*big.Rat, n)
	for c := range n {
		out[c] = new(big.Rat).Quo(m[c][n], m[c][c])
	}
	return out
}

// choices returns all rising slices of k numbers below n.
func choices(n, k int) [][]int {
	if k == 0 {
		return [][]int{nil}
	}
	var out [][]int
	for last := k - 1; last < n; last++ {
		for _, first := range choices(last, k-1) {
			out = append(out, append(slices.Clone(first), last))
		}
	}
	return out
}

// corners returns all feasible points at which as many rows and bounds as there
// are variables hold with equality, and determine the point.
func (p plain) corners() [][]*big.Rat {
	n := len(p.cost)
	var all [][]*big.Rat
	for i := range n {
		bound := zeros(n + 1)
		bound[i].SetInt64(1)
		all = append(all, bound)
	}
	for k, coef := range p.coef {
		all = append(all, append(slices.Clone(coef), p.right[k]))
	}
	var out [][]*big.Rat
	for _, chosen := range choices(len(all), n) {
		var rows [][]*big.Rat
		for _, i := range chosen {
			rows = append(rows, all[i])
		}
		if x := solution(rows, n); x != nil && p.holds(x, false) {
			out = append(out, x)
		}
	}
	return out
}

// directions returns the program whose feasible points are the directions, of
// length 1, in which the feasible points of p have no end.
func (p plain) directions() plain {
	one := big.NewRat(1, 1)
	out := plain{cost: p.cost, kind: append(slices.Clone(p.kind), api.Equal)}
	out.right = append(zeros(len(p.right)), one)
	out.coef = append(slices.Clone(p.coef), slices.Repeat([]*big.Rat{one}, len(p.cost)))
	return out
}

// An outcome is what the oracle says of a program.
type outcome struct {
	kind            int
	x               []*big.Rat
	value           *big.Rat
	least, greatest []*big.Rat // of each variable; nil: there is no greatest one
}

func (p plain) outcome() outcome {
	corners := p.corners()
	if len(corners) == 0 {
		return outcome{kind: api.Infeasible}
	}
	rays := p.directions().corners()
	for _, ray := range rays {
		if dot(p.cost, ray).Sign() < 0 {
			return outcome{kind: api.Unbounded}
		}
	}
	compare := func(a, b []*big.Rat) int {
		if order := dot(p.cost, a).Cmp(dot(p.cost, b)); order != 0 {
			return order
		}
		return slices.CompareFunc(a, b, (*big.Rat).Cmp)
	}
	out := outcome{kind: api.Optimal, x: slices.MinFunc(corners, compare)}
	out.value = dot(p.cost, out.x)
	isWorse := func(x []*big.Rat) bool { return dot(p.cost, x).Cmp(out.value) > 0 }
	corners = slices.DeleteFunc(corners, isWorse)
	for i := range p.cost {
		by := func(a, b []*big.Rat) int { return a[i].Cmp(b[i]) }
		out.least = append(out.least, slices.MinFunc(corners, by)[i])
		greatest := slices.MaxFunc(corners, by)[i]
		for _, ray := range rays {
			if dot(p.cost, ray).Sign() == 0 && ray[i].Sign() > 0 {
				greatest = nil
			}
		}
		out.greatest = append(out.greatest, greatest)
	}
	return out
}

// Random programs.

// small returns mostly small integers, many of them 0, and some fractions.
func small(r *rand.Rand, limit int) api.Num {
	x := r.Intn(2*limit+1) - limit
	switch r.Intn(6) {
	case 0:
		return "0"
	case 1:
		return num(big.NewRat(int64(x), int64(1+r.Intn(5))))
	}
	return api.Num(strconv.Itoa(x))
}

func smalls(r *rand.Rand, n, limit int) []api.Num {
	out := make([]api.Num, n)
	for i := range out {
		out[i] = small(r, limit)
	}
	return out
}

// someProgram returns a small program; many of its rows repeat one another, are
// zero, or meet in one point, and many costs are equal.
func someProgram(r *rand.Rand, variables, rows int) api.Program {
	p := api.Program{Cost: smalls(r, variables, 1+r.Intn(6))}
	point := rats(smalls(r, variables, 3))
	for k := range rows {
		row := api.Row{Coef: smalls(r, variables, 1+r.Intn(5)), Kind: 1 + r.Intn(3), Right: small(r, 6)}
		if r.Intn(2) == 0 {
			row.Right = num(dot(rats(row.Coef), point))
		}
		if r.Intn(12) == 0 {
			row.Coef = slices.Repeat([]api.Num{"0"}, variables)
		}
		if k > 0 && r.Intn(8) == 0 {
			row.Coef = slices.Clone(p.Rows[r.Intn(k)].Coef)
		}
		if k > 0 && r.Intn(12) == 0 {
			row = copied(p).Rows[r.Intn(k)]
		}
		if r.Intn(2) == 0 {
			row.Kind = api.AtMost
		}
		p.Rows = append(p.Rows, row)
	}
	return p
}

// longNum returns a Num with up to so many digits above and below.
func longNum(r *rand.Rand, above, below int) api.Num {
	limit := func(n int) *big.Int { return new(big.Int).Exp(big.NewInt(10), big.NewInt(int64(n)), nil) }
	top := new(big.Int).Rand(r, limit(above))
	if r.Intn(2) == 0 {
		top.Neg(top)
	}
	bottom := new(big.Int).Rand(r, limit(below))
	return num(new(big.Rat).SetFrac(top, bottom.Add(bottom, big.NewInt(1))))
}

// longProgram returns a program without any structure. If it is tame, 0 is
// feasible, and the first row bounds all variables.
func longProgram(r *rand.Rand, variables, rows, above, below int, isTame bool) api.Program {
	size := func(x api.Num) api.Num { return api.Num(strings.TrimPrefix(string(x), "-")) }
	p := api.Program{}
	for range variables {
		p.Cost = append(p.Cost, longNum(r, above, below))
	}
	for k := range rows {
		row := api.Row{Kind: 1 + r.Intn(3), Right: longNum(r, above, below)}
		for range variables {
			row.Coef = append(row.Coef, longNum(r, above, below))
		}
		if isTame {
			row.Kind, row.Right = api.AtMost, size(row.Right)
			for i, x := range row.Coef {
				if k == 0 {
					row.Coef[i] = size(x)
				}
			}
		}
		p.Rows = append(p.Rows, row)
	}
	return p
}
