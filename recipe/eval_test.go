package recipe_test

import (
	"fmt"
	"math"
	"math/big"
	"math/rand"
	"slices"
	"testing"

	"cracknel/api"
	"cracknel/recipe"
)

// A task is an evaluation, with what the tests make of it.
type task struct {
	m      menu
	l      line
	given  [][]int // for each unit the exponents of the arguments
	values []*big.Rat
	worth  map[string]*big.Rat
	scale  nums
}

// someTask returns a random evaluation of a definition, or false if its exponents
// are too great.
func someTask(r *rand.Rand, m menu, l line, wrong bool) (task, bool) {
	k := task{m: m, l: l}
	s, e := recipe.Type(m.text, l.name)
	if e != api.OK {
		return k, false
	}
	for _, v := range someVectors(r, s, wrong) {
		k.given = append(k.given, v[:len(l.params)])
		if slices.ContainsFunc(v, func(n int) bool { return n < -900 || n > 900 }) {
			return k, false
		}
	}
	for range l.params {
		k.values = append(k.values, someValue(r))
	}
	k.worth, k.scale = someScale(r, m.units)
	return k, true
}

func (k task) args() qtys {
	var out qtys
	for i, value := range k.values {
		q := qty{Value: numOf(value)}
		for _, exponents := range k.given {
			q.Dim = append(q.Dim, exponents[i])
		}
		out = append(out, q)
	}
	return out
}

// want returns what the chapter's words make of a task.
func (k task) want() (api.Num, []int, api.Errno) {
	types := solve(k.m.lines, k.l, k.given)
	if !types.isTyped() {
		return "", nil, api.ErrType
	}
	params := map[string]*big.Rat{}
	for i, name := range k.l.params {
		params[name] = k.values[i]
	}
	value, e := (&cook{lines: k.m.lines, scale: k.worth}).value(k.l.body, params)
	if e != api.OK {
		return "", nil, e
	}
	var dim []int
	for unit := range k.m.units {
		n := types.result(unit)
		if n.CmpAbs(big.NewInt(1000)) > 0 {
			return "", nil, api.ErrRange
		}
		dim = append(dim, int(n.Int64()))
	}
	return numOf(value), dim, api.OK
}

// Values and exponents are those of a second evaluation, and of a system of all
// exponents.
func TestRandomValues(t *testing.T) {
	r := rand.New(rand.NewSource(5))
	seen := map[api.Errno]int{}
	for range 700 {
		m := someMenu(t, r, 6, 3)
		for _, l := range m.lines {
			if l.sort == "unit" {
				continue
			}
			k, ok := someTask(r, m, l, r.Intn(2) == 0)
			if !ok {
				continue
			}
			value, dim, e := k.want()
			seen[e]++
			if e != api.OK {
				expectEvalError(t, m.text, l.name, k.args(), k.scale, e)
				continue
			}
			expectValue(t, m.text, l.name, k.args(), k.scale, value, fmt.Sprint(dim))
		}
	}
	if seen[api.OK] < 1000 || seen[api.ErrZero] < 100 || seen[api.ErrType] < 30 {
		t.Errorf("errors: %v", seen)
	}
}

const baking = `unit kg
unit m
let flour = 3 [kg] / 4
let nothing = 0
fun sq(a) = a*a
fun hypo(a, b) = a^2 + b^2
fun pick(a, b) = if a < b then a else b
fun cube(a) = 0^3 * a
fun steep(a) = ((0^9)^9)^9 * a
fun wide(a) = (((0^9)^9)^9)^9 * a
fun ninth(a) = a^9
fun odd(a, b) = if a < 1 [kg] then b else 0
`

func TestValues(t *testing.T) {
	plain := nums{"1", "1"}
	expectValue(t, "unit kg\nlet x = 3 [kg] * 2", "x", nil, nums{"1000"}, "6000", "[1]")
	expectValue(t, baking, "flour", nil, plain, "3/4", "[1 0]")
	expectValue(t, baking, "flour", nil, nums{"1/3", "7"}, "1/4", "[1 0]")
	expectValue(t, baking, "nothing", nil, plain, "0", "[0 0]")
	expectValue(t, baking, "sq", qtys{one("-2/3", 1, -5)}, plain, "4/9", "[2 -10]")
	expectValue(t, baking, "hypo", qtys{one("3", 1, 2), one("-4", 1, 2)}, plain, "25", "[2 4]")
	expectValue(t, baking, "pick", qtys{one("3", 4, 0), one("-4", 4, 0)}, plain, "-4", "[4 0]")
	expectValue(t, baking, "pick", qtys{one("3", 0, 0), one("3", 0, 0)}, plain, "3", "[0 0]")
	expectValue(t, baking, "odd", qtys{one("3", 1, 0), one("5", 7, 8)}, nums{"4", "1"}, "5", "[7 8]")
	expectValue(t, baking, "odd", qtys{one("3", 1, 0), one("5", 7, 8)}, nums{"3", "1"}, "0", "[7 8]")
	// Units in a bracket, each time to its exponent.
	const source = "unit a\nunit b\nlet x = 5 [a^2 b^-1 a]\nlet y = 0.5 [b^-2 b^2]\nlet z = 0 [a^-9 b^9]\nlet w = 2 [a]^3\nlet v = 1 [a^-1]^-2"
	expectValue(t, source, "x", nil, nums{"2/3", "5"}, "8/27", "[3 -1]")
	expectValue(t, source, "y", nil, nums{"2/3", "5"}, "1/2", "[0 0]")
	expectValue(t, source, "z", nil, nums{"2/3", "5"}, "0", "[-9 9]")
	expectValue(t, source, "w", nil, nums{"2/3", "5"}, "64/27", "[3 0]")
	expectValue(t, source, "v", nil, nums{"2/3", "5"}, "4/9", "[2 0]")
	// No units, and unused ones.
	expectValue(t, "fun f(a) = 1/a", "f", qtys{one("-7/2")}, nil, "-2/7", "[]")
	expectValue(t, "fun f(a) = 1/a", "f", qtys{{Value: "-7/2", Dim: []int{}}}, nums{}, "-2/7", "[]")
	expectValue(t, "unit kg\nlet x = 1\nunit m", "x", nil, nums{"5", "7"}, "1", "[0 0]")
	// Long numbers are exact.
	long := repeated(api.MaxDigits/2, "7")
	expectValue(t, "fun f(a, b) = a*b - b*a + a/b*b - a", "f", qtys{one(api.Num(long)), one(api.Num("1/" + long))}, nil, "0", "[]")
	square := new(big.Int).Exp(ratOf(api.Num(long)).Num(), big.NewInt(2), nil)
	expectValue(t, "fun f(a) = a*a", "f", qtys{one(api.Num(long))}, nil, api.Num(square.String()), "[]")
}

// Results with several allowed exponents: the least one that is 0 or more.
func TestSeveralExponents(t *testing.T) {
	plain := nums{"1", "1"}
	for n := -7; n <= 7; n++ {
		want := ((n % 3) + 3) % 3
		expectValue(t, baking, "cube", qtys{one("5", n, 0)}, plain, "0", fmt.Sprintf("[%d 0]", want))
		expectValue(t, baking, "cube", qtys{one("5", 1, n)}, plain, "0", fmt.Sprintf("[1 %d]", want))
	}
	expectValue(t, baking, "steep", qtys{one("5", -1, 1)}, plain, "0", "[728 1]")
	expectValue(t, baking, "steep", qtys{one("5", 729, -729)}, plain, "0", "[0 0]")
	expectValue(t, baking, "wide", qtys{one("5", 1000, 0)}, plain, "0", "[1000 0]")
	expectEvalError(t, baking, "wide", qtys{one("5", -1, 0)}, plain, api.ErrRange)
	expectEvalError(t, baking, "wide", qtys{one("5", 0, -1000)}, plain, api.ErrRange)
	// One exponent may be allowed that is below 0.
	expectValue(t, "unit kg\nfun f(a) = 1/a", "f", qtys{one("5", 7)}, nums{"1"}, "1/5", "[-7]")
}

// Results whose exponents are beyond -1000 and 1000: only if the evaluation
// succeeds.
func TestResultRange(t *testing.T) {
	plain := nums{"1", "1"}
	expectValue(t, baking, "sq", qtys{one("2", 500, -500)}, plain, "4", "[1000 -1000]")
	expectEvalError(t, baking, "sq", qtys{one("2", 501, 0)}, plain, api.ErrRange)
	expectEvalError(t, baking, "sq", qtys{one("2", 0, -501)}, plain, api.ErrRange)
	expectEvalError(t, baking, "ninth", qtys{one("2", 1000, 0)}, plain, api.ErrRange)
	expectValue(t, baking, "ninth", qtys{one("2", 111, -111)}, plain, "512", "[999 -999]")
	expectEvalError(t, baking, "ninth", qtys{one("2", 112, 0)}, plain, api.ErrRange)
	const source = "unit kg\nfun f(a, b) = a*a/b\nlet x = " + "1 [kg^9 kg^9]^9 * 1 [kg^9 kg^9]^9 * 1 [kg^9 kg^9]^9 * 1 [kg^9 kg^9]^9 * 1 [kg^9 kg^9]^9 * 1 [kg^9 kg^9]^9" + "\nlet y = x * 1 [kg^9 kg^9 kg^9 kg]\nlet z = y * 1 [kg]\nlet w = 1 / z\nlet v = 1 / y\nlet u = z / 0\nlet s = z / z\n"
	expectValue(t, source, "x", nil, nums{"1"}, "1", "[972]")
	expectValue(t, source, "y", nil, nums{"1"}, "1", "[1000]")
	expectValue(t, source, "v", nil, nums{"1"}, "1", "[-1000]")
	expectEvalError(t, source, "z", nil, nums{"1"}, api.ErrRange)
	expectEvalError(t, source, "w", nil, nums{"1"}, api.ErrRange)
	expectEvalError(t, source, "u", nil, nums{"1"}, api.ErrZero)
	expectValue(t, source, "s", nil, nums{"1"}, "1", "[0]")
	expectValue(t, source, "f", qtys{one("3", 1000), one("2", 1000)}, nums{"1"}, "9/2", "[1000]")
	expectEvalError(t, source, "f", qtys{one("3", 1000), one("2", 999)}, nums{"1"}, api.ErrRange)
	expectEvalError(t, source, "f", qtys{one("3", 1000), one("0", 999)}, nums{"1"}, api.ErrZero)
	expectEvalError(t, source, "f", qtys{one("3", -1000), one("2", 1000)}, nums{"1"}, api.ErrRange)
	// A type with exponents of many digits.
	expectEvalError(t, steep()+"let x = h(1 [kg])", "x", nil, nums{"1"}, api.ErrRange)
	expectEvalError(t, steep()+"let x = h(1 [kg^-1])", "x", nil, nums{"1"}, api.ErrRange)
	expectValue(t, steep()+"let x = h(1)", "x", nil, nums{"1"}, "1", "[0]")
}

func TestNoSuchDefinition(t *testing.T) {
	for _, name := range []string{"", "kg", "m", "none", "unit", "let", "a", "sq ", " sq", "SQ", "sq(a)", "fun sq", "\n", repeated(100, "x")} {
		expectTypeError(t, baking, name, api.ErrNone)
		for _, args := range []qtys{nil, {one("1", 0, 0)}, {one("x", 0, 0)}, {{}}} {
			for _, scale := range []nums{nil, {"1", "1"}, {"0", "x"}} {
				expectEvalError(t, baking, name, args, scale, api.ErrNone)
			}
		}
	}
}

func TestArguments(t *testing.T) {
	plain := nums{"1", "1"}
	good := one("1", 0, 0)
	for _, x := range []struct {
		name string
		args qtys
	}{{"flour", qtys{good}}, {"sq", nil}, {"sq", qtys{}}, {"sq", qtys{good, good}}, {"hypo", qtys{good}}, {"hypo", qtys{good, good, good}}, {"hypo", nil}} {
		expectEvalError(t, baking, x.name, x.args, plain, api.ErrArg)
	}
	for _, bad := range []qty{
		{}, one("1"), one("1", 0), one("1", 0, 0, 0), one("1", 1001, 0), one("1", 0, 1001), one("1", -1001, 0), one("1", 0, -1001), one("1", math.MaxInt, 0), one("1", 0, math.MinInt),
		one("", 0, 0), one("-0", 0, 0), one("01", 0, 0), one("2/4", 0, 0), one("1/1", 0, 0), one("1/0", 0, 0), one("0/5", 0, 0), one("1.5", 0, 0), one("+1", 0, 0), one(" 1", 0, 0), one("1/-2", 0, 0), one("a", 0, 0), one("1\n", 0, 0),
		one(api.Num(repeated(api.MaxDigits+1, "1")), 0, 0), one(api.Num("1/"+repeated(api.MaxDigits+1, "3")), 0, 0),
	} {
		expectEvalError(t, baking, "sq", qtys{bad}, plain, api.ErrArg)
		expectEvalError(t, baking, "hypo", qtys{good, bad}, plain, api.ErrArg)
		expectEvalError(t, baking, "hypo", qtys{bad, good}, plain, api.ErrArg)
	}
	for _, n := range []int{-1000, -999, 999, 1000} {
		expectValue(t, baking+"fun f(a) = a\nfun g(a) = a^0", "f", qtys{one("1", n, -n)}, plain, "1", fmt.Sprintf("[%d %d]", n, -n))
		expectValue(t, baking+"fun f(a) = a\nfun g(a) = a^0", "g", qtys{one("1", n, -n)}, plain, "1", "[0 0]")
	}
	most := api.Num("-" + repeated(api.MaxDigits, "9") + "/1" + repeated(api.MaxDigits-1, "0"))
	expectValue(t, "fun f(a) = a", "f", qtys{one(most)}, nil, most, "[]")
}

func TestScales(t *testing.T) {
	long := api.Num(repeated(40, "9"))
	for _, x := range []api.Num{"1", "1/1000", "999/7", long, "1/" + long, "1/1" + api.Num(repeated(39, "0")), long + "/1" + api.Num(repeated(39, "0"))} {
		want := numOf(new(big.Rat).Mul(ratOf(x), big.NewRat(3, 4)))
		expectValue(t, baking, "flour", nil, nums{x, "1"}, want, "[1 0]")
		expectValue(t, baking, "flour", nil, nums{"1", x}, "3/4", "[1 0]")
	}
	for _, x := range []api.Num{
		"0", "-1", "-1/2", "-" + long, "1" + long, "1/1" + long, "1" + long + "/7", "7/1" + long, "", "x", "-0", "01", "2/4", "1/1", "1/0", "0/1", "1.5", "+1", " 1", "1 ", "1/-2", "1/2/3", api.Num(repeated(api.MaxDigits, "1")), api.Num(repeated(api.MaxDigits+1, "1")), api.Num("1/" + repeated(api.MaxDigits, "3")),
	} {
		for _, name := range []string{"flour", "nothing"} {
			expectEvalError(t, baking, name, nil, nums{x, "1"}, api.ErrArg)
			expectEvalError(t, baking, name, nil, nums{"1", x}, api.ErrArg)
		}
		expectEvalError(t, baking, "sq", qtys{one("1", 0, 0)}, nums{"1", x}, api.ErrArg)
	}
	for _, scale := range []nums{nil, {}, {"1"}, {"1", "1", "1"}, {"1", "1", "1", "1"}, make(nums, 2)} {
		expectEvalError(t, baking, "nothing", nil, scale, api.ErrArg)
	}
	expectEvalError(t, "let x = 1", "x", nil, nums{"1"}, api.ErrArg)
	expectValue(t, "let x = 1", "x", nil, nil, "1", "[]")
}

// Exponents that the type does not allow; ErrArg comes first, and errors of the
// evaluation come later.
func TestTypesOfArguments(t *testing.T) {
	plain := nums{"1", "1"}
	expectEvalError(t, baking, "hypo", qtys{one("3", 1, 0), one("4", 0, 0)}, plain, api.ErrType)
	expectEvalError(t, baking, "hypo", qtys{one("3", 0, 1), one("4", 0, 2)}, plain, api.ErrType)
	expectEvalError(t, baking, "odd", qtys{one("3", 0, 0), one("4", 0, 0)}, plain, api.ErrType)
	expectEvalError(t, baking, "odd", qtys{one("3", 1, 1), one("4", 0, 0)}, plain, api.ErrType)
	expectEvalError(t, baking, "odd", qtys{one("3", 0, 0), one("x", 0, 0)}, plain, api.ErrArg)
	expectEvalError(t, baking, "odd", qtys{one("3", 0, 0), one("4", 0, 0)}, nums{"1", "0"}, api.ErrArg)
	expectEvalError(t, baking, "odd", qtys{one("3", 0, 0)}, plain, api.ErrArg)
	const source = "unit kg\nfun f(a) = (a + 1 [kg]) / 0\nfun g(a) = a^2 + 0^3\nfun h(a) = a^9*0 + 1 [kg]\n"
	expectEvalError(t, source, "f", qtys{one("1", 0)}, nums{"1"}, api.ErrType)
	expectEvalError(t, source, "f", qtys{one("1", 1)}, nums{"1"}, api.ErrZero)
	for n := -6; n <= 6; n++ {
		if n%3 == 0 {
			expectValue(t, source, "g", qtys{one("5", n)}, nums{"1"}, "25", fmt.Sprintf("[%d]", 2*n))
		} else {
			expectEvalError(t, source, "g", qtys{one("5", n)}, nums{"1"}, api.ErrType)
		}
		expectValue(t, source, "h", qtys{one("5", n)}, nums{"1/8"}, "1/8", "[1]")
	}
}

func TestZero(t *testing.T) {
	for _, body := range []string{"1/0", "1/(2-2)", "0/0", "1/a", "0^-1", "0^-9", "a^-1", "(a*5)^-2", "1 + 1/0", "1/0 + 1", "-(1/0)", "(1/0)^0", "(1/0)*0", "0*(1/0)", "f(1/0)", "f(1)/f(a)", "if 1/0 < 1 then 1 else 1", "if 1 < 1/0 then 1 else 1", "if 1 < 2 then 1/0 else 1", "if 2 < 1 then 1 else 1/0", "if a < 1 then 1/a else 1", "f(f(1)/0)", "z"} {
		source := "fun f(a) = a\nfun x(a) = " + body
		if body == "z" {
			source = "let z = 1/0\nfun x(a) = z"
		}
		expectEvalError(t, source, "x", qtys{one("0")}, nil, api.ErrZero)
	}
	for _, x := range []struct {
		body string
		want api.Num
	}{
		{"0^0", "1"}, {"a^0", "1"}, {"a^1", "0"}, {"a^9", "0"}, {"a^-0", "1"}, {"0/1", "0"}, {"a/7", "0"}, {"(a+1)^-1", "1"}, {"0^0/1", "1"},
		// Branches that are not evaluated.
		{"if 1 < 2 then 3 else 1/0", "3"}, {"if 2 < 1 then 1/0 else 3", "3"}, {"if 1 < 1 then 1/0 else 3", "3"}, {"if a < 0 then 1/a else 5", "5"}, {"if a < 1 then 5 else 1/a", "5"}, {"if 1 < 2 then if 2 < 1 then 1/0 else 4 else 1/0", "4"},
	} {
		expectValue(t, "fun x(a) = "+x.body, "x", qtys{one("0")}, nil, x.want, "[]")
	}
}

// Values of MaxDigits digits, and of more: of numbers, of operators and of those
// that are of no use.
func TestLongValues(t *testing.T) {
	most := api.Num(repeated(api.MaxDigits, "9"))
	ten := api.Num("1" + repeated(api.MaxDigits-1, "0"))
	tiny := "1/" + ten
	for _, x := range []struct {
		body string
		arg  api.Num
		want api.Num
	}{
		{"a", most, most}, {"-a", most, "-" + most}, {"a*1", most, most}, {"a+0", most, most}, {"a-0+0", ten, ten}, {"a^1", most, most}, {"a^-1", most, "1/" + most}, {"1/a", ten, tiny}, {"a*1", tiny, tiny}, {"a/a", most, "1"}, {"a-a", most, "0"}, {"a*0", most, "0"}, {"a^0", most, "1"}, {"a-1+1", most, most},
		{"if a < a+0 then a*10 else a", most, most}, {"if 1 < 2 then a else a*10", most, most}, {"if 2 < 1 then a^2 else a", most, most},
	} {
		expectValue(t, "fun x(a) = "+x.body, "x", qtys{one(x.arg)}, nil, x.want, "[]")
	}
	for _, body := range []string{"a+1", "1+a", "-(-1-a)-1", "a-(-1)", "a*a", "a*10", "a/0.1", "a^2", "a^9", "a^-2", "1/(a*10)", "0*(a+1)", "(a+1)^0", "(a+1)-1", "(a+1)*0", "0/(a+1)", "if a+1 < 0 then 1 else 1", "if 0 < a+1 then 1 else 1", "if 1 < 2 then a+1 else 1", "f(a+1)", "g(a)", "a/3*10+1", "1/a/a", "a + 0.5"} {
		expectEvalError(t, "fun f(a) = 0\nfun g(a) = a+1\nfun x(a) = "+body, "x", qtys{one(most)}, nil, api.ErrRange)
	}
	expectEvalError(t, "fun x(a) = a*0.1", "x", qtys{one(tiny)}, nil, api.ErrRange)
	expectEvalError(t, "fun x(a) = a/10", "x", qtys{one(tiny)}, nil, api.ErrRange)
	expectEvalError(t, "fun x(a) = a*10", "x", qtys{one(ten)}, nil, api.ErrRange)
	expectEvalError(t, "fun x(a, b) = a + b", "x", qtys{one("1/" + most), one(tiny)}, nil, api.ErrRange)
	// Numbers with units: only the product counts.
	scale := api.Num("1" + repeated(39, "0"))
	number := func(n int) string {
		return "unit a\nunit b\nlet x = 1 [" + repeated(n/9, "a^9 ") + fmt.Sprintf("a^%d", n%9)
	}
	expectValue(t, number(102)+"]", "x", nil, nums{scale, "1"}, api.Num("1"+repeated(102*39, "0")), "[102 0]")
	expectEvalError(t, number(103)+"]", "x", nil, nums{scale, "1"}, api.ErrRange)
	expectEvalError(t, number(103)+"]", "x", nil, nums{"1/" + scale, "1"}, api.ErrRange)
	expectEvalError(t, "unit a\nunit b\nlet x = 0*1 ["+repeated(15, "a^9 ")+"]", "x", nil, nums{scale, "1"}, api.ErrRange)
	expectValue(t, "unit a\nunit b\nlet x = 0 ["+repeated(15, "a^9 ")+"]", "x", nil, nums{scale, "1"}, "0", "[135 0]")
	expectValue(t, number(150)+repeated(16, " b^9")+" b^6]", "x", nil, nums{scale, "1/" + scale}, "1", "[150 150]")
	expectValue(t, number(150)+repeated(16, " a^-9")+" a^-5]", "x", nil, nums{scale, "1"}, scale, "[1 0]")
}

// spend returns definitions, and an expression whose evaluation with them takes
// exactly n steps.
func spend(n int) (string, string) {
	const levels = 5
	before, steps := "let v0 = 1\n", []int{1}
	for k := 1; k < levels; k++ {
		before += fmt.Sprintf("let v%d = %sv%d\n", k, repeated(9, fmt.Sprintf("v%d+", k-1)), k-1)
		steps = append(steps, 9+10*(1+steps[k-1]))
	}
	out := "1"
	n--
	for k := levels - 1; k >= 0; k-- {
		for n >= 2+steps[k] {
			out += fmt.Sprintf(" + v%d", k)
			n -= 2 + steps[k]
		}
	}
	if n >= 2 {
		out += " + 1"
		n -= 2
	}
	if n == 1 {
		out = "-(" + out + ")"
	}
	return before, out
}

func stepsOf(t *testing.T, n int, construct string, args qtys) api.Errno {
	t.Helper()
	before, expression := spend(n)
	const others = "fun id(z) = z\nfun two(y, z) = y\nfun none(z) = 7\nlet w = 2\nlet u = w + w\n"
	_, e := recipe.Eval(before+others+"fun x(a) = "+construct+" + ("+expression+")", "x", args, nil)
	return e
}

// MaxFuel steps are allowed, one more is not: so the steps of each construct are
// counted.
func TestSteps(t *testing.T) {
	for _, x := range []struct {
		construct string
		steps     int
	}{
		{"1", 1}, {"0.25", 1}, {"a", 1}, {"w", 2}, {"u", 1 + 1 + 2 + 2}, {"(a)", 1}, {"((((1))))", 1}, {"(1 + 1)", 3}, {"(1 - a)", 3}, {"(1 * 1)", 3}, {"(1 / 1)", 3}, {"(-1)", 2}, {"(- - -a)", 4}, {"1^5", 2}, {"a^-9", 2}, {"(a^2)^0", 3}, {"-1^2", 3},
		{"id(1)", 3}, {"id(id(a))", 5}, {"two(1, 2)", 4}, {"two(id(1), w)", 1 + 3 + 2 + 1}, {"none(1 + 1)", 1 + 3 + 1}, {"(1 + 2 + 3)", 5}, {"(1 + 2 * 3)", 5},
		{"(if 1 < 2 then 3 else 4)", 4}, {"(if 2 < 1 then 3 else 4)", 4}, {"(if 1 + 1 < 1 then 3 else 4 + 4)", 1 + 3 + 1 + 3}, {"(if 1 < 2 then 3 else u + u + u)", 4}, {"(if 2 < 1 then u + u + u else 3)", 4}, {"(if a < 2 then if 1 < 2 then 3 else 4 else 5)", 1 + 2 + 4},
	} {
		args := qtys{one("1")}
		if e := stepsOf(t, api.MaxFuel-x.steps-1, x.construct, args); e != api.OK {
			t.Errorf("%s takes more than %d steps: error %d", x.construct, x.steps, e)
		}
		if e := stepsOf(t, api.MaxFuel-x.steps, x.construct, args); e != api.ErrLong {
			t.Errorf("%s takes less than %d steps: error %d", x.construct, x.steps, e)
		}
	}
	before, expression := spend(api.MaxFuel)
	expectValue(t, before+"let x = "+expression, "x", nil, nil, numOfSteps(expression), "[]")
	before, expression = spend(api.MaxFuel - 1)
	expectValue(t, before+"let y = "+expression+"\nlet x = y", "x", nil, nil, numOfSteps(expression), "[]")
	for n := api.MaxFuel + 1; n < api.MaxFuel+4; n++ {
		before, expression = spend(n)
		expectEvalError(t, before+"let x = "+expression, "x", nil, nil, api.ErrLong)
	}
	// Without an end, but for the steps.
	source := "fun f0(a) = a\n"
	for i := 1; i < 32; i++ {
		source += fmt.Sprintf("fun f%d(a) = f%d(f%d(f%d(a)))\n", i, i-1, i-1, i-1)
	}
	expectEvalError(t, source, "f31", qtys{one("1")}, nil, api.ErrLong)
}

// numOfSteps returns the value of what spend returns: sums of ones.
func numOfSteps(expression string) api.Num {
	value, sign := 0, 1
	for i, c := range expression {
		switch {
		case c == 'v':
			value += []int{1, 10, 100, 1000, 10000}[expression[i+1]-'0']
		case c == '1' && (i == 0 || expression[i-1] != 'v'):
			value++
		case c == '-':
			sign = -1
		}
	}
	return api.Num(fmt.Sprint(sign * value))
}

// Of ErrZero, ErrRange and ErrLong the one that occurs first: a step counts when it
// begins, and a value when it is there.
func TestFirstError(t *testing.T) {
	most := qtys{one(api.Num(repeated(api.MaxDigits, "9")))}
	for _, x := range []struct {
		construct string
		steps     int // until the error
		want      api.Errno
	}{{"1/0", 3, api.ErrZero}, {"0^-1", 2, api.ErrZero}, {"(1 + 1/0)", 5, api.ErrZero}, {"(1/0 + 1)", 4, api.ErrZero}, {"(1/0 + a*10)", 4, api.ErrZero}, {"a*10", 3, api.ErrRange}, {"a^2", 2, api.ErrRange}, {"(a*10 + 1/0)", 4, api.ErrRange}, {"(a + 1 + 1)", 4, api.ErrRange}, {"-(a + 1)", 4, api.ErrRange}, {"(a*10)/0", 4, api.ErrRange}, {"(1/0)*(a*10)", 4, api.ErrZero}, {"(if a*10 < 1/0 then 1 else 1)", 4, api.ErrRange}} {
		for _, more := range []int{-10, -1, 0, 1, 2, 10} {
			before, expression := spend(api.MaxFuel - 1 - x.steps + more)
			want := x.want
			if more > 0 {
				want = api.ErrLong
			}
			source := before + "fun x(a) = (" + expression + ") + " + x.construct
			expectEvalError(t, source, "x", most, nil, want)
		}
		before, expression := spend(2 * api.MaxFuel)
		expectEvalError(t, before+"fun x(a) = "+x.construct+" + ("+expression+")", "x", most, nil, x.want)
		expectEvalError(t, before+"fun x(a) = ("+expression+") + "+x.construct, "x", most, nil, api.ErrLong)
	}
}

// Operands and arguments are evaluated from left to right, and a let each time it
// is used.
func TestOrderOfEvaluation(t *testing.T) {
	const before = "let bad = 1/0\nfun f(a, b) = 1\nfun g(a, b) = (a + 1)*0\n"
	most := qtys{one(api.Num(repeated(api.MaxDigits, "9")))}
	for _, x := range []struct {
		body string
		want api.Errno
	}{
		{"bad + a*10", api.ErrZero}, {"a*10 + bad", api.ErrRange}, {"bad - a*10", api.ErrZero}, {"a*10 - bad", api.ErrRange}, {"bad * (a*10)", api.ErrZero}, {"(a*10) * bad", api.ErrRange}, {"bad / (a*10)", api.ErrZero}, {"(a*10) / bad", api.ErrRange},
		{"f(bad, a*10)", api.ErrZero}, {"f(a*10, bad)", api.ErrRange}, {"g(a, bad)", api.ErrZero}, {"g(a, 1)", api.ErrRange}, {"g(bad, a)", api.ErrZero}, {"if bad < a*10 then 1 else 1", api.ErrZero}, {"if a*10 < bad then 1 else 1", api.ErrRange}, {"if a < 0 then bad else a*10", api.ErrRange}, {"if 0 < a then bad else a*10", api.ErrZero},
		{"(a*10)^0 * bad", api.ErrRange}, {"bad^0 * (a*10)", api.ErrZero},
	} {
		expectEvalError(t, before+"fun x(a) = "+x.body, "x", most, nil, x.want)
	}
}
