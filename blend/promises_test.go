package blend_test

import (
	"math/big"
	"math/rand"
	"slices"
	"testing"

	"cracknel/api"
	"cracknel/blend"
)

// withRights returns a program with other right sides.
func withRights(r *rand.Rand, p api.Program) api.Program {
	out := copied(p)
	for k := range out.Rows {
		out.Rows[k].Right = small(r, 6)
	}
	return out
}

// B1: no multipliers with the right signs, whose columns are at most the costs,
// have a right side above the cost of a feasible point. The points come from
// other costs, the multipliers from other right sides.
func TestWeakDuality(t *testing.T) {
	r := rand.New(rand.NewSource(41))
	count := 0
	for range 4000 {
		p := someProgram(r, 1+r.Intn(5), 1+r.Intn(5))
		other := copied(p)
		other.Cost = smalls(r, len(p.Cost), 4)
		a, b := solve(t, other), solve(t, withRights(r, p))
		if a.Kind == api.Infeasible || b.Kind != api.Optimal {
			continue
		}
		count++
		plain := plainOf(p)
		if !plain.holds(rats(a.X), false) || !plain.proves(rats(b.Y), plain.cost) {
			t.Fatalf("%v: %v is no point, or %v no multipliers", p, a.X, b.Y)
		}
		if dot(rats(b.Y), plain.right).Cmp(dot(plain.cost, rats(a.X))) > 0 {
			t.Fatalf("%v: multipliers %v and point %v", p, b.Y, a.X)
		}
	}
	if count < 400 {
		t.Errorf("only %d pairs", count)
	}
}

// B2: the program that is dual to one with an optimum has the same value.
func TestStrongDuality(t *testing.T) {
	r := rand.New(rand.NewSource(42))
	count := 0
	for range 2000 {
		p := someProgram(r, 1+r.Intn(6), 1+r.Intn(6))
		// Rows at least, so that multipliers are 0 or more.
		dual := api.Program{}
		for k := range p.Rows {
			p.Rows[k].Kind = api.AtLeast
			dual.Cost = append(dual.Cost, num(new(big.Rat).Neg(rat(p.Rows[k].Right))))
		}
		for i, cost := range p.Cost {
			row := api.Row{Kind: api.AtMost, Right: cost}
			for k := range p.Rows {
				row.Coef = append(row.Coef, p.Rows[k].Coef[i])
			}
			dual.Rows = append(dual.Rows, row)
		}
		a, b := solve(t, p), solve(t, dual)
		switch {
		case a.Kind == api.Optimal:
			count++
			if b.Kind != api.Optimal || rat(a.Value).Cmp(new(big.Rat).Neg(rat(b.Value))) != 0 {
				t.Fatalf("%v: %v and %v", p, a, b)
			}
		case a.Kind == api.Unbounded && b.Kind != api.Infeasible, b.Kind == api.Unbounded && a.Kind != api.Infeasible, b.Kind == api.Optimal:
			t.Fatalf("%v: %v and %v", p, a, b)
		}
	}
	if count < 300 {
		t.Errorf("only %d optima", count)
	}
}

// B3: there are no feasible point and multipliers that refuse all points; which
// of them there is does not depend on the costs.
func TestFarkas(t *testing.T) {
	r := rand.New(rand.NewSource(43))
	for range 3000 {
		p := someProgram(r, 1+r.Intn(5), 1+r.Intn(6))
		a := solve(t, p)
		other := copied(p)
		other.Cost = smalls(r, len(p.Cost), 4)
		b := solve(t, other)
		if (a.Kind == api.Infeasible) != (b.Kind == api.Infeasible) {
			t.Fatalf("%v: %v and %v", p, a, b)
		}
		refusal := a
		if b.Kind == api.Infeasible {
			refusal = b
		}
		if len(b.X) > 0 && plainOf(p).isRight(api.Answer{Kind: api.Infeasible, Y: refusal.Y}) {
			t.Fatalf("%v: a point %v and a refusal %v", p, b.X, refusal.Y)
		}
	}
}

// B5: the answer grows with the costs, and with the right sides.
func TestScaling(t *testing.T) {
	r := rand.New(rand.NewSource(45))
	count := 0
	for range 1500 {
		p := someProgram(r, 1+r.Intn(5), r.Intn(6))
		factor := big.NewRat(int64(1+r.Intn(20)), int64(1+r.Intn(20)))
		costs, rights := copied(p), copied(p)
		costs.Cost = times(p.Cost, factor)
		for k, row := range p.Rows {
			rights.Rows[k].Right = times([]api.Num{row.Right}, factor)[0]
		}
		a, b, c := solve(t, p), solve(t, costs), solve(t, rights)
		if a.Kind != b.Kind || a.Kind != c.Kind {
			t.Fatalf("%v times %v: kinds %d, %d, %d", p, factor, a.Kind, b.Kind, c.Kind)
		}
		if a.Kind != api.Optimal {
			continue
		}
		count++
		value := times([]api.Num{a.Value}, factor)[0]
		if !slices.Equal(a.X, b.X) || b.Value != value || !slices.Equal(times(a.X, factor), c.X) || c.Value != value {
			t.Fatalf("%v times %v: %v, %v, %v", p, factor, a, b, c)
		}
	}
	if count < 300 {
		t.Errorf("only %d optima", count)
	}
}

// The order of the rows, and how they are written, change no optimum.
func TestRowsInOtherWords(t *testing.T) {
	r := rand.New(rand.NewSource(46))
	for range 1500 {
		p := someProgram(r, 1+r.Intn(5), 1+r.Intn(6))
		q := copied(p)
		r.Shuffle(len(q.Rows), func(i, j int) { q.Rows[i], q.Rows[j] = q.Rows[j], q.Rows[i] })
		for k, row := range q.Rows {
			factor := big.NewRat(int64(1+r.Intn(9)), int64(1+r.Intn(9)))
			if row.Kind == api.Equal && r.Intn(2) == 0 {
				q.Rows[k].Kind = api.AtMost
				q.Rows = append(q.Rows, api.Row{Coef: slices.Clone(row.Coef), Kind: api.AtLeast, Right: row.Right})
			}
			if r.Intn(2) == 0 {
				factor.Neg(factor)
				q.Rows[k].Kind = map[int]int{api.AtMost: api.AtLeast, api.AtLeast: api.AtMost, api.Equal: api.Equal}[q.Rows[k].Kind]
			}
			q.Rows[k].Coef, q.Rows[k].Right = times(row.Coef, factor), times([]api.Num{row.Right}, factor)[0]
		}
		a, b := solve(t, p), solve(t, q)
		if a.Kind != b.Kind || a.Kind == api.Optimal && (!slices.Equal(a.X, b.X) || a.Value != b.Value) {
			t.Fatalf("%v and %v: %v and %v", p, q, a, b)
		}
	}
}

// P1: what differs only at the last digit differs.
func TestSmallestDifferences(t *testing.T) {
	tiny := api.Num("1/" + digits(40, "9"))
	near := num(new(big.Rat).SetFrac(new(big.Int).Sub(rat(tiny).Denom(), big.NewInt(1)), rat(tiny).Denom()))
	expectX(t, api.Program{Cost: []api.Num{near, "1"}, Rows: []api.Row{{Coef: vec("1 1"), Kind: api.AtLeast, Right: "1"}}}, "1 0", string(near))
	expectX(t, api.Program{Cost: []api.Num{"1", near}, Rows: []api.Row{{Coef: vec("1 1"), Kind: api.AtLeast, Right: "1"}}}, "0 1", string(near))
	expectKind(t, api.Program{Cost: vec("0"), Rows: []api.Row{{Coef: vec("1"), Kind: api.AtMost, Right: near}, {Coef: vec("1"), Kind: api.AtLeast, Right: "1"}}}, api.Infeasible)
	expectKind(t, api.Program{Cost: vec("0"), Rows: []api.Row{{Coef: []api.Num{"1"}, Kind: api.Equal, Right: "1"}, {Coef: []api.Num{near}, Kind: api.Equal, Right: "1"}}}, api.Infeasible)
	expectKind(t, api.Program{Cost: []api.Num{"-" + tiny}}, api.Unbounded)
	expectX(t, api.Program{Cost: []api.Num{tiny}}, "0", "0")
	expectX(t, api.Program{Cost: vec("-1"), Rows: []api.Row{{Coef: []api.Num{tiny}, Kind: api.AtMost, Right: "1"}}}, digits(40, "9"), "-"+digits(40, "9"))
	p := api.Program{Cost: []api.Num{"1", near}, Rows: []api.Row{{Coef: vec("1 1"), Kind: api.Equal, Right: "1"}, {Coef: vec("0 1"), Kind: api.AtMost, Right: near}}}
	expectX(t, p, string(tiny)+" "+string(near), string(num(new(big.Rat).Add(rat(tiny), new(big.Rat).Mul(rat(near), rat(near))))))
	expectSpread(t, p, 0, tiny, tiny)
	if ok, e := blend.Right(api.Program{Cost: vec("1"), Rows: []api.Row{{Coef: vec("1"), Kind: api.AtLeast, Right: "1"}}}, optimal(string(near), string(near), string(near))); ok || e != api.OK {
		t.Errorf("a point that is too near is accepted")
	}
}
