package recipe_test

import (
	"fmt"
	"math/big"
	"math/rand"
	"slices"
	"strings"
	"testing"

	"cracknel/api"
	"cracknel/recipe"
)

func eval(k task) (qty, api.Errno) { return recipe.Eval(k.m.text, k.l.name, k.args(), k.scale) }

// tasks calls a test with random evaluations of which the arguments are allowed.
func tasks(t *testing.T, seed int64, count int, test func(r *rand.Rand, k task)) {
	t.Helper()
	r := rand.New(rand.NewSource(seed))
	for range count {
		m := someMenu(t, r, 6, 3)
		for _, l := range m.lines {
			if l.sort == "unit" {
				continue
			}
			if k, ok := someTask(r, m, l, false); ok {
				test(r, k)
			}
		}
	}
}

func someFactor(r *rand.Rand) *big.Rat { return big.NewRat(int64(1+r.Intn(5)), int64(1+r.Intn(5))) }

// branches returns which branches an evaluation takes.
func branches(k task) string {
	c := &cook{lines: k.m.lines, scale: k.worth}
	params := map[string]*big.Rat{}
	for i, name := range k.l.params {
		params[name] = k.values[i]
	}
	_, e := c.value(k.l.body, params)
	return fmt.Sprint(c.steps, e)
}

// R2: if every scale is multiplied by a number above 0, and every argument by the
// product of these numbers to the power of its exponents, so is the result, and the
// same branches are evaluated.
func TestSound(t *testing.T) {
	moved := 0
	tasks(t, 6, 500, func(r *rand.Rand, k task) {
		first, e := eval(k)
		other := k
		other.worth, other.scale, other.values = map[string]*big.Rat{}, nil, nil
		var by []*big.Rat
		for i, unit := range k.m.units {
			by = append(by, someFactor(r))
			other.worth[unit] = new(big.Rat).Mul(k.worth[unit], by[i])
			other.scale = append(other.scale, numOf(other.worth[unit]))
		}
		for i, value := range k.values {
			factor := big.NewRat(1, 1)
			for unit := range by {
				factor.Mul(factor, ratPower(by[unit], k.given[unit][i]))
			}
			other.values = append(other.values, factor.Mul(factor, value))
		}
		second, f := eval(other)
		if e != f || branches(k) != branches(other) {
			t.Fatalf("%q, %s: error %d, and then %d", k.m.text, k.l.name, e, f)
		}
		if e != api.OK {
			return
		}
		want := ratOf(first.Value)
		for unit := range by {
			want.Mul(want, ratPower(by[unit], first.Dim[unit]))
		}
		// If several exponents suit the result, it is 0.
		if numOf(want) != second.Value || !slices.Equal(first.Dim, second.Dim) {
			t.Errorf("%q, %s: %v and %v of %v", k.m.text, k.l.name, first, second, by)
		}
		if first.Value != second.Value {
			moved++
		}
	})
	if moved < 100 {
		t.Errorf("only %d results have changed", moved)
	}
}

// R3: for a row f of Free the arguments may be multiplied by c^f[i], with the same
// scale: then so is the result.
func TestFree(t *testing.T) {
	moved := 0
	tasks(t, 7, 500, func(r *rand.Rand, k task) {
		s, _ := recipe.Type(k.m.text, k.l.name)
		first, e := eval(k)
		for _, f := range s.Free {
			c := someFactor(r)
			other := k
			other.values = nil
			for i, value := range k.values {
				other.values = append(other.values, new(big.Rat).Mul(value, ratPower(c, intOf(f[i]))))
			}
			second, g := eval(other)
			if e != g || branches(k) != branches(other) {
				t.Fatalf("%q, %s: error %d, and then %d", k.m.text, k.l.name, e, g)
			}
			if e != api.OK {
				continue
			}
			want := new(big.Rat).Mul(ratOf(first.Value), ratPower(c, intOf(f[len(f)-1])))
			if numOf(want) != second.Value || !slices.Equal(first.Dim, second.Dim) {
				t.Errorf("%q, %s: %v and %v of %v to %v", k.m.text, k.l.name, first, second, c, f)
			}
			if first.Value != second.Value {
				moved++
			}
		}
	})
	if moved < 100 {
		t.Errorf("only %d results have changed", moved)
	}
}

func intOf(x api.Num) int { return int(bigOf(x).Int64()) }

// replaced returns an expression with other expressions in the place of names.
func replaced(x *tree, by map[string]*tree) *tree {
	if other := by[x.text]; x.kind == "name" && other != nil {
		return other
	}
	out := *x
	out.parts = nil
	for _, part := range x.parts {
		out.parts = append(out.parts, replaced(part, by))
	}
	return &out
}

// instance returns an expression in which the calls whose arguments are names of
// parameters are replaced by the functions' expressions, and how many these are.
func instance(x *tree, params []string, funs []line) (*tree, int) {
	count := 0
	out := *x
	out.parts = nil
	for _, part := range x.parts {
		inner, n := instance(part, params, funs)
		out.parts = append(out.parts, inner)
		count += n
	}
	isOther := func(arg *tree) bool { return arg.kind != "name" || !slices.Contains(params, arg.text) }
	for _, l := range funs {
		if x.kind != "call" || x.text != l.name || slices.ContainsFunc(x.parts, isOther) {
			continue
		}
		by := map[string]*tree{}
		for i, name := range l.params {
			by[name] = x.parts[i]
		}
		return replaced(l.body, by), count + 1
	}
	return &out, count
}

// R4: replacing such a call by the function's expression, in brackets, changes
// neither the value nor the type of a definition.
func TestInstances(t *testing.T) {
	count := 0
	tasks(t, 8, 1500, func(r *rand.Rand, k task) {
		body, n := instance(k.l.body, k.l.params, k.m.lines)
		l := k.l
		l.body = body
		lines := slices.Clone(k.m.lines)
		lines[slices.IndexFunc(lines, func(l line) bool { return l.name == k.l.name })] = l
		if n == 0 || tokenCount(l) > api.MaxTokens {
			return
		}
		count++
		other := text(lines)
		a, e := recipe.Type(k.m.text, l.name)
		b, f := recipe.Type(other, l.name)
		if e != api.OK || f != api.OK || fmt.Sprint(a) != fmt.Sprint(b) {
			t.Fatalf("%q: %v, error %d, and %q: %v, error %d", k.m.text, a, e, other, b, f)
		}
		p, e := eval(k)
		q, f := recipe.Eval(other, l.name, k.args(), k.scale)
		if e != f || fmt.Sprint(p) != fmt.Sprint(q) {
			t.Errorf("%q: %v, error %d, and %q: %v, error %d", k.m.text, p, e, other, q, f)
		}
	})
	if count < 100 {
		t.Errorf("only %d calls were replaced", count)
	}
}

// R5: a unit that is not used changes no value, wherever it is defined and whatever
// it is worth.
func TestUnusedUnits(t *testing.T) {
	tasks(t, 9, 300, func(r *rand.Rand, k task) {
		if len(k.m.units) == api.MaxUnits {
			return
		}
		at := r.Intn(len(k.m.lines) + 1)
		unit := 0
		for _, l := range k.m.lines[:at] {
			if l.sort == "unit" {
				unit++
			}
		}
		lines := slices.Insert(slices.Clone(k.m.lines), at, line{sort: "unit", name: "unused"})
		s, e := recipe.Type(text(lines), k.l.name)
		before, f := recipe.Type(k.m.text, k.l.name)
		want := slices.Insert(slices.Clone(before.Fixed), unit, row(strings.Repeat("0 ", len(k.l.params)+1)))
		if e != f || fmt.Sprint(s.Free) != fmt.Sprint(before.Free) || fmt.Sprint(s.Fixed) != fmt.Sprint(want) {
			t.Errorf("%q: %v, and with another unit %v", k.m.text, before, s)
		}
		args := k.args()
		for i := range args {
			args[i].Dim = slices.Insert(args[i].Dim, unit, 0)
		}
		scale := slices.Insert(slices.Clone(k.scale), unit, numOf(someFactor(r)))
		p, e := eval(k)
		q, f := recipe.Eval(text(lines), k.l.name, args, scale)
		if e != f || p.Value != q.Value {
			t.Errorf("%q, %s: %v, error %d, and with another unit %v, error %d", k.m.text, k.l.name, p, e, q, f)
		}
		if e == api.OK && !slices.Equal(slices.Insert(slices.Clone(p.Dim), unit, 0), q.Dim) {
			t.Errorf("%q, %s: %v, and with another unit %v", k.m.text, k.l.name, p, q)
		}
	})
}

// P4: in examples that can be followed by hand.
func TestWorth(t *testing.T) {
	const source = "unit kg\nunit m\nlet density = 3 [kg m^-3]\nfun mass(side) = side^3 * density\nfun more(a) = if a < 1000 [kg] then a else a - 1 [kg]\n"
	// In metres and kilograms, and in centimetres and grams.
	expectValue(t, source, "mass", qtys{one("2", 0, 1)}, nums{"1", "1"}, "24", "[1 0]")
	expectValue(t, source, "mass", qtys{one("200", 0, 1)}, nums{"1000", "100"}, "24000", "[1 0]")
	expectValue(t, source, "more", qtys{one("999", 1, 0)}, nums{"1", "1"}, "999", "[1 0]")
	expectValue(t, source, "more", qtys{one("999000", 1, 0)}, nums{"1000", "7"}, "999000", "[1 0]")
	expectValue(t, source, "more", qtys{one("1000", 1, 0)}, nums{"1", "1"}, "999", "[1 0]")
	expectValue(t, source, "more", qtys{one("1000000", 1, 0)}, nums{"1000", "7"}, "999000", "[1 0]")
	// A free unit: g = 3.
	const free = "fun f(a, b) = a*a*a + b*b"
	expectType(t, free, "f", 2, "[[2 3 6]]", "[]")
	expectValue(t, free, "f", qtys{one("2"), one("5")}, nil, "33", "[]")
	expectValue(t, free, "f", qtys{one("18"), one("135")}, nil, "24057", "[]")
}
