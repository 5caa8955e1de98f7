package recipe_test

import (
	"fmt"
	"math/big"
	"math/rand"
	"testing"

	"cracknel/api"
	"cracknel/recipe"
)

// R1: the scheme is in its one form, and allows exactly the exponents with which
// the definition can be typed: those that a system of all exponents in it, and in
// what it uses, has as solutions.
func TestPrincipalTypes(t *testing.T) {
	r := rand.New(rand.NewSource(1))
	seen := map[string]int{}
	for range 1200 {
		m := someMenu(t, r, 1+r.Intn(8), 3)
		expectRecipe(t, m.text, 0, api.OK)
		for _, l := range m.lines {
			if l.sort != "unit" {
				s := checkScheme(t, m, l)
				seen[fmt.Sprint(len(l.params), len(s.Free))]++
			}
		}
	}
	for params := range api.MaxParams + 1 {
		for free := range params + 2 {
			if seen[fmt.Sprint(params, free)] == 0 {
				t.Errorf("no type of %d parameters has %d free rows", params, free)
			}
		}
	}
}

func checkScheme(t *testing.T, m menu, l line) scheme {
	t.Helper()
	s, e := recipe.Type(m.text, l.name)
	if e != api.OK || s.Params != len(l.params) || len(s.Fixed) != len(m.units) {
		t.Fatalf("Type(%q, %s) = %v, error %d", m.text, l.name, s, e)
	}
	want := solve(m.lines, l, nil)
	free, fixed := bigRows(s.Free), bigRows(s.Fixed)
	isRight := isHermite(free)
	for _, v := range want.rows {
		isRight = isRight && isCombination(v, free)
	}
	for unit, v := range fixed {
		isRight = isRight && len(v) == len(l.params)+1 && isReduced(v, free)
		isRight = isRight && isCombination(combinedBig(want.one[unit], v, big.NewInt(-1)), free)
	}
	// And no row is too many: it makes no difference to the definition.
	isRight = isRight && len(free) == rankOf(want.rows) && isIndexOne(free, want.rows)
	if !isRight {
		t.Errorf("Type(%q, %s) = %v, want %v", m.text, l.name, s, want)
	}
	return s
}

// rankOf returns how many rows are independent.
func rankOf(rows [][]*big.Int) int {
	var copies [][]*big.Int
	for _, row := range rows {
		copies = append(copies, combinedBig(row, row, new(big.Int)))
	}
	if len(copies) == 0 {
		return 0
	}
	return len(eliminate(copies, len(copies[0])))
}

// isIndexOne reports whether rows generate all that others in Hermite normal form
// do, of which they are combinations.
func isIndexOne(free, rows [][]*big.Int) bool {
	var copies [][]*big.Int
	for _, row := range rows {
		copies = append(copies, combinedBig(row, row, new(big.Int)))
	}
	if len(copies) == 0 {
		return len(free) == 0
	}
	for i, column := range eliminate(copies, len(copies[0])) {
		if pivotOf(free[i]) != column || free[i][column].CmpAbs(copies[i][column]) != 0 {
			return false
		}
	}
	return true
}

// What a scheme allows can be typed, and what is near it only if it is allowed.
func TestAllowedExponents(t *testing.T) {
	r := rand.New(rand.NewSource(2))
	allowed, refused := 0, 0
	for range 400 {
		m := someMenu(t, r, 6, 3)
		for _, l := range m.lines {
			if l.sort == "unit" {
				continue
			}
			s, _ := recipe.Type(m.text, l.name)
			for unit, v := range someVectors(r, s, true) {
				want := solve(m.lines, withResult(l, v, m.units[unit]), given(len(m.units), v[:len(l.params)]))
				isTyped := want.one[unit] != nil
				expectAllows(t, s, unit, v, isTyped)
				if isTyped {
					allowed++
				} else {
					refused++
				}
			}
		}
	}
	if allowed < 500 || refused < 100 {
		t.Errorf("%d allowed, %d refused", allowed, refused)
	}
}

// given returns the same exponents for each unit.
func given(units int, v []int) [][]int {
	out := make([][]int, units)
	for i := range out {
		out[i] = v
	}
	return out
}

// withResult returns a definition whose expression must have a given exponent.
func withResult(l line, v []int, unit string) line {
	other := num("1", tag{unit, v[len(v)-1]})
	l.body = node("+", l.body, other)
	return l
}

func TestTypes(t *testing.T) {
	const units = "unit kg\nunit m\n"
	for _, x := range []struct {
		line        string
		params      int
		free, fixed string
	}{
		// The chapter's examples, and what is near them.
		{"fun x(a) = a*a", 1, "[[1 2]]", "[[0 0] [0 0]]"},
		{"fun x(a, b) = a*a*a + b*b", 2, "[[2 3 6]]", "[[0 0 0] [0 0 0]]"},
		{"let x = 2 [kg] + 0", 0, "[]", "[[1] [0]]"},
		{"let x = 3 [kg] * 2", 0, "[]", "[[1] [0]]"},
		// Zero has any unit, unless it has one; other numbers have none.
		{"let x = 0", 0, "[[1]]", "[[0] [0]]"},
		{"let x = 0.0", 0, "[[1]]", "[[0] [0]]"},
		{"let x = 0.00000000000", 0, "[[1]]", "[[0] [0]]"},
		{"let x = -0", 0, "[[1]]", "[[0] [0]]"},
		{"let x = 0 [kg]", 0, "[]", "[[1] [0]]"},
		{"let x = 0.0 [kg m^-2]", 0, "[]", "[[1] [-2]]"},
		{"let x = 0 [kg^0]", 0, "[]", "[[0] [0]]"},
		{"let x = 0 [m^0 kg^-0]", 0, "[]", "[[0] [0]]"},
		{"let x = 0.01", 0, "[]", "[[0] [0]]"},
		{"let x = 0 * 5 [m]", 0, "[[1]]", "[[0] [0]]"},
		{"let x = 0 * 0 + 1", 0, "[]", "[[0] [0]]"},
		{"let x = 1 - 1", 0, "[]", "[[0] [0]]"},
		{"let x = 0^2", 0, "[[2]]", "[[0] [0]]"},
		{"let x = 0^3 * 2 [kg^4 m^-1]", 0, "[[3]]", "[[1] [2]]"},
		{"let x = 0^4 * 0^6", 0, "[[2]]", "[[0] [0]]"},
		{"let x = 0^0", 0, "[]", "[[0] [0]]"},
		{"let x = 0^2 + 0^3", 0, "[[6]]", "[[0] [0]]"},
		{"let x = 0^2 * 1 [kg] + 0^3", 0, "[[6]]", "[[3] [0]]"},
		// Units in a bracket are added up.
		{"let x = 1 [kg kg^2 m kg^-1 m]", 0, "[]", "[[2] [2]]"},
		{"let x = 1 [kg kg^-1]", 0, "[]", "[[0] [0]]"},
		{"let x = 1 [kg^9 kg^9 m^-9]", 0, "[]", "[[18] [-9]]"},
		// Operators.
		{"let x = 1 [kg] * 1 [m]", 0, "[]", "[[1] [1]]"},
		{"let x = 1 [kg] / 1 [m] / 1 [m]", 0, "[]", "[[1] [-2]]"},
		{"let x = 1 [kg] / (1 [m] / 1 [m])", 0, "[]", "[[1] [0]]"},
		{"let x = 2 [kg]^9", 0, "[]", "[[9] [0]]"},
		{"let x = 2 [kg m]^-9", 0, "[]", "[[-9] [-9]]"},
		{"let x = 2 [kg]^0 + 1", 0, "[]", "[[0] [0]]"},
		{"let x = -2 [kg] - 3 [kg]", 0, "[]", "[[1] [0]]"},
		{"let x = -2 [kg]^2 + 1 [kg^2]", 0, "[]", "[[2] [0]]"},
		{"let x = if 1 [kg] < 2 [kg] then 3 [m] else 4 [m]", 0, "[]", "[[0] [1]]"},
		{"let x = if 1 [kg] < 0 then 0 else 0", 0, "[[1]]", "[[0] [0]]"},
		// Parameters.
		{"fun x(a) = 1", 1, "[[1 0]]", "[[0 0] [0 0]]"},
		{"fun x(a) = 0", 1, "[[1 0] [0 1]]", "[[0 0] [0 0]]"},
		{"fun x(a) = a", 1, "[[1 1]]", "[[0 0] [0 0]]"},
		{"fun x(a) = a + 1 [kg]", 1, "[]", "[[1 1] [0 0]]"},
		{"fun x(a) = a^-3", 1, "[[1 -3]]", "[[0 0] [0 0]]"},
		{"fun x(a) = a*a + 4 [kg^2]", 1, "[]", "[[1 2] [0 0]]"},
		{"fun x(a) = a^2 + 0^3", 1, "[[3 6]]", "[[0 0] [0 0]]"},
		{"fun x(a) = a^2 * 1 [kg] + 0^3", 1, "[[3 6]]", "[[1 3] [0 0]]"},
		{"fun x(a, b) = a*b", 2, "[[1 0 1] [0 1 1]]", "[[0 0 0] [0 0 0]]"},
		{"fun x(a, b) = a*b + 1 [m^2]", 2, "[[1 -1 0]]", "[[0 0 0] [0 2 2]]"},
		{"fun x(a, b) = a*b*0", 2, "[[1 0 0] [0 1 0] [0 0 1]]", "[[0 0 0] [0 0 0]]"},
		{"fun x(a, b) = if a < b then a*b else 0", 2, "[[1 1 2]]", "[[0 0 0] [0 0 0]]"},
		{"fun x(a, b) = if a^2 < b^2 then 1 else 2", 2, "[[1 1 0]]", "[[0 0 0] [0 0 0]]"},
		{"fun x(a, b) = if a^2*b^3 < 1 [kg^5] then 1 else 2", 2, "[[3 -2 0]]", "[[1 1 0] [0 0 0]]"},
		{"fun x(a, b, c, d) = a*b*c*d", 4, "[[1 0 0 0 1] [0 1 0 0 1] [0 0 1 0 1] [0 0 0 1 1]]", "[[0 0 0 0 0] [0 0 0 0 0]]"},
		{"fun x(a, b, c, d) = a + b + c + d", 4, "[[1 1 1 1 1]]", "[[0 0 0 0 0] [0 0 0 0 0]]"},
		{"fun x(a, b, c, d) = 0", 4, "[[1 0 0 0 0] [0 1 0 0 0] [0 0 1 0 0] [0 0 0 1 0] [0 0 0 0 1]]", "[[0 0 0 0 0] [0 0 0 0 0]]"},
		{"fun x(a, b, c, d) = (0^2+a*b)*(0^3+c)*(0^5+d)", 4, "[[1 1 0 0 2] [0 2 0 0 2] [0 0 3 0 3] [0 0 0 5 5]]", "[[0 0 0 0 0] [0 0 0 0 0]]"},
	} {
		expectType(t, units+x.line, "x", x.params, x.free, x.fixed)
	}
}

// A recipe without units has no vectors, but the same rows.
func TestTypesWithoutUnits(t *testing.T) {
	expectType(t, "let x = 1", "x", 0, "[]", "[]")
	expectType(t, "let x = 0", "x", 0, "[[1]]", "[]")
	expectType(t, "fun x(a) = a*a + 4", "x", 1, "[]", "[]")
	expectType(t, "fun x(a, b) = a*a*a + b*b\n", "x", 2, "[[2 3 6]]", "[]")
	expectType(t, "fun x(a) = a*a + 1\nunit kg", "x", 1, "[]", "[[0 0]]")
}

// A unit that is defined after a definition: zero vectors.
func TestLaterUnits(t *testing.T) {
	const source = "fun f(a) = a^3\nunit kg\nlet x = 2 [kg]\nfun g(a) = f(a) + x\nlet y = f(x)\nunit m\nfun h(a) = f(a) * 2 [m] * x\nunit s\n"
	expectRecipe(t, source, 3+1, api.ErrType)
	const right = "fun f(a) = a^3\nunit kg\nlet x = 2 [kg]\nfun g(a) = f(a) + x^3\nlet y = f(x)\nunit m\nfun h(a) = f(a) * 2 [m] * x\nunit s\n"
	expectType(t, right, "f", 1, "[[1 3]]", "[[0 0] [0 0] [0 0]]")
	expectType(t, right, "x", 0, "[]", "[[1] [0] [0]]")
	expectType(t, right, "g", 1, "[]", "[[1 3] [0 0] [0 0]]")
	expectType(t, right, "y", 0, "[]", "[[3] [0] [0]]")
	expectType(t, right, "h", 1, "[[1 3]]", "[[0 1] [0 1] [0 0]]")
	expectRecipe(t, "let x = 2 [kg]\nunit kg", 1, api.ErrName)
}

// Each use of a let or of a fun may have other exponents.
func TestUses(t *testing.T) {
	const before = "unit kg\nunit m\nlet nil = 0\nlet even = 0^2\nfun any(a) = 0\nfun same(a, b) = a + b\nfun sq(a) = a*a\n"
	for _, x := range []struct {
		line        string
		params      int
		free, fixed string
	}{
		{"let x = (1 [kg] + nil) * (1 [m] + nil)", 0, "[]", "[[1] [1]]"},
		{"let x = (1 [kg^2] + even) * (1 [m^4] + even)", 0, "[]", "[[2] [4]]"},
		{"let x = nil * nil", 0, "[[1]]", "[[0] [0]]"},
		{"let x = even * 1 [kg]", 0, "[[2]]", "[[1] [0]]"},
		{"let x = (any(1 [m]) + 1 [kg]) * (any(1) + 1 [m])", 0, "[]", "[[1] [1]]"},
		{"let x = same(1 [kg], 2 [kg]) * same(1 [m], 0)", 0, "[]", "[[1] [1]]"},
		{"let x = same(0, 0)", 0, "[[1]]", "[[0] [0]]"},
		{"let x = sq(sq(sq(1 [kg])))", 0, "[]", "[[8] [0]]"},
		{"let x = sq(0)", 0, "[[2]]", "[[0] [0]]"},
		{"let x = sq(nil) + sq(2 [m])", 0, "[]", "[[0] [2]]"},
		{"fun x(a) = same(sq(a), 0)", 1, "[[1 2]]", "[[0 0] [0 0]]"},
		{"fun x(a, b) = same(sq(a), b)", 2, "[[1 2 2]]", "[[0 0 0] [0 0 0]]"},
		{"fun x(a, b) = sq(a) * any(same(a, b))", 2, "[[1 1 0] [0 0 1]]", "[[0 0 0] [0 0 0]]"},
		{"fun x(a, b) = sq(a) / sq(b)", 2, "[[1 0 2] [0 1 -2]]", "[[0 0 0] [0 0 0]]"},
		{"fun x(a, b) = same(a, b) * same(b, 1 [kg])", 2, "[]", "[[1 1 2] [0 0 0]]"},
	} {
		expectType(t, before+x.line, "x", x.params, x.free, x.fixed)
	}
	for _, line := range []string{
		"let x = 1 [kg] + even", "let x = same(1 [kg], 1 [m])", "let x = any(same(1 [kg], 1))", "let x = sq(nil) + 1 [kg]", "fun x(a) = same(a, 1 [kg]) + same(a, 1 [m])",
	} {
		expectRecipe(t, before+line, 8, api.ErrType)
	}
}

// Types that no integers satisfy.
func TestNotTyped(t *testing.T) {
	expectLines(t, api.ErrType,
		"let x = 2 [kg] + 3", "fun x(a) = a*a + 4 [kg]", "let x = 1 [kg] - 1 [m]", "let x = 1 [kg] + 1 [kg^2]", "let x = 1 + 1 [kg]", "let x = mass + one",
		"let x = 0^2 + 1 [kg]", "let x = 0 [kg] + 1", "let x = 0 [kg^0] + 1 [kg]", "let x = 0^0 + 1 [kg]", "let x = 1 [kg]^0 + mass", "let x = -mass + one",
		"let x = if 1 < mass then 1 else 1", "let x = if mass < 1 then 1 else 1", "let x = if 1 < 2 then mass else 1", "let x = if 1 < 2 then 1 else mass",
		"let x = (if 1 < mass then 1 else 1)^0", "let x = 0 * (1 + mass)", "let x = nil * (1 + mass)", "let x = sq(1 + mass)", "let x = mix(1, 1 + mass)", "let x = mix(1 + mass, 1)",
		"fun x(a) = a + mass + one", "fun x(a) = (a + mass) * (a + one)", "fun x(a, b) = (a*b + mass) * (a/b + one)", "fun x(a, b) = a*a*b*b + mass", "fun x(a) = a^6 + mass^4", "fun x(a) = a^0 + mass",
		"fun x(a) = if a < mass then one else a", "fun x(a) = (a + 1)*0 + (a + mass)*0", "fun x(a) = a^2*1[kg] + 0^4", "let x = 0^6 * 1 [kg^3] + 0^4", "let x = 1 [kg kg^-1] + mass",
	)
	// For one of several units only.
	expectLines(t, api.ErrType, "fun x(a) = a*a + 4 [kg^2 m]", "fun x(a) = a*a + 4 [kg m^2]", "let x = 1 [kg m] + 1 [kg]", "let x = 1 [kg m] + 1 [m]")
	expectLines(t, api.OK, "fun x(a) = a*a + 4 [kg^2 m^2]", "let x = 1 [kg m] + 1 [m kg]", "fun x(a) = a^6 + mass^6", "let x = mass + 0", "let x = nil + mass", "let x = 0^6 * 1 [kg^2] + 0^4")
}

// nested writes an expression that takes a name to the power of 9^n.
func nested(name string, n int) string {
	out := name
	for i := range n {
		if i > 0 {
			out = "(" + out + ")"
		}
		out += "^9"
	}
	return out
}

// steep is functions f, g and h: powers of 9^30, 9^1200 and 9^3600, where 9^4191 has
// 4000 digits and 9^4192 has one more.
func steep() string {
	return "fun f(a) = " + nested("a", 30) + "\nfun g(a) = " + repeated(40, "f(") + "a" + repeated(40, ")") + "\nfun h(a) = g(g(g(a)))\nunit kg\n"
}

// ErrRange: a number of more than MaxDigits digits in the scheme, but only there.
func TestLongTypes(t *testing.T) {
	most := new(big.Int).Exp(big.NewInt(9), big.NewInt(4191), nil)
	source := steep() + "fun e(a) = " + repeated(19, "f(") + "a" + repeated(19, ")") + "\nfun k(a) = h(e(" + nested("a", 21) + "))\n"
	expectType(t, source, "k", 1, fmt.Sprintf("[[1 %d]]", most), "[[0 0]]")
	for _, x := range []struct {
		line string
		want api.Errno
	}{
		{"fun x(a) = k(a)", api.OK},
		{"fun x(a) = k(a)^-1", api.OK},
		{"fun x(a) = 1 / k(a)", api.OK},
		{"let x = k(1 [kg])", api.OK},
		{"let x = k(1 [kg^-1])", api.OK},
		{"let x = k(0)", api.OK},
		{"let x = k(1)", api.OK},
		{"fun x(a) = k(a)^9", api.ErrRange},
		{"fun x(a) = k(a^9)", api.ErrRange},
		{"fun x(a) = k(a)^-9", api.ErrRange},
		{"let x = k(1 [kg^9])", api.ErrRange},
		{"let x = k(1 [kg^-9])", api.ErrRange},
		{"let x = k(0)^9", api.ErrRange},
		{"fun x(a, b) = if k(a) < f(b) then 1 else 1", api.OK},
		{"fun x(a, b) = if k(k(k(a))) < b then 1 else 1", api.ErrRange},
		{"fun x(a, b) = if k(k(k(a))) < k(k(f(b))) then 1 else 1", api.OK},
		// Long numbers on the way do no harm.
		{"fun x(a) = (k(k(a))*k(a))^0", api.OK},
		{"fun x(a) = k(k(k(a))) / k(k(k(a))) * a", api.OK},
		{"fun x(a) = if k(k(k(a))) < 0 then 1 else 1", api.OK},
		{"let x = 1 + k(k(k(1)))", api.OK},
		{"let x = 0 * k(k(k(1 [kg])))", api.OK},
		{"let x = if k(k(1 [kg])) < 0 then 1 else 1", api.OK},
		{"let x = 1 [kg] + k(k(1 [kg]))", api.ErrType},
		{"let x = 1 + k(k(1 [kg]))", api.ErrType},
		{"fun x(a) = 1 [kg] + k(k(a))", api.ErrType},
		{"fun x(a) = a*0 + k(k(1 [kg]))", api.ErrRange},
	} {
		line := 0
		if x.want != api.OK {
			line = 7
		}
		expectRecipe(t, source+x.line, line, x.want)
	}
	expectType(t, source+"fun x(a) = k(k(k(a))) / k(k(k(a))) * a", "x", 1, "[[1 1]]", "[[0 0]]")
	expectType(t, source+"let x = k(0) * 1 [kg^-1]", "x", 0, fmt.Sprintf("[[%d]]", most), fmt.Sprintf("[[%d]]", new(big.Int).Sub(most, big.NewInt(1))))
}
