package recipe_test

import (
	"fmt"
	"math/big"
	"math/rand"
	"reflect"
	"slices"
	"strconv"
	"strings"
	"testing"

	"cracknel/api"
	"cracknel/recipe"
)

type (
	qty    = api.Qty
	qtys   = []api.Qty
	nums   = []api.Num
	scheme = api.Scheme
)

// R3: results beside an error are zero values; a slice may be empty.
func expectZero(t *testing.T, name string, result any, e api.Errno) {
	t.Helper()
	if e == api.OK {
		return
	}
	parts := []any{result}
	switch x := result.(type) {
	case qty:
		parts = []any{x.Value, x.Dim}
	case scheme:
		parts = []any{x.Params, x.Free, x.Fixed}
	}
	for _, part := range parts {
		if v := reflect.ValueOf(part); !v.IsZero() && (v.Kind() != reflect.Slice || v.Len() > 0) {
			t.Errorf("%s: %v beside error %d", name, result, e)
		}
	}
}

// short returns the end of a recipe, quoted.
func short(source string) string { return strconv.Quote(source[max(0, len(source)-300):]) }

// expectRecipe expects that of Check and, if there is an error, the same of Type
// and Eval, whatever else is wrong with their arguments.
func expectRecipe(t *testing.T, source string, line int, want api.Errno) {
	t.Helper()
	if got, e := recipe.Check(source); got != line || e != want {
		t.Errorf("Check(%s) = %d, error %d, want %d, error %d", short(source), got, e, line, want)
		return
	}
	if want == api.OK {
		return
	}
	for _, name := range []string{"", "x", "one", "sq", "kg", "none"} {
		s, e := recipe.Type(source, name)
		expectZero(t, "Type", s, e)
		if e != want {
			t.Errorf("Type(%s, %q): error %d, want %d", short(source), name, e, want)
		}
		for _, args := range []qtys{nil, {{}}, {{Value: "0", Dim: []int{0, 0}}}} {
			q, e := recipe.Eval(source, name, args, nums{"1", "1"})
			expectZero(t, "Eval", q, e)
			if e != want {
				t.Errorf("Eval(%s, %q, %v): error %d, want %d", short(source), name, args, e, want)
			}
		}
	}
}

// before is what the lines of expectLine may use.
const before = `unit kg
unit m
let one = 1
let mass = 2 [kg]
let nil = 0
fun sq(a) = a*a
fun mix(a, b) = a*b
fun four(a, b, c, d) = a*b/c/d
`

// expectLine expects an error of a line behind others, or none: an error of a
// later line changes nothing.
func expectLine(t *testing.T, line string, want api.Errno) {
	t.Helper()
	number := strings.Count(before, "\n") + 1
	if want == api.OK {
		expectRecipe(t, before+line, 0, api.OK)
		expectRecipe(t, before+line+"\nlet", number+1, api.ErrForm)
		return
	}
	expectRecipe(t, before+line, number, want)
	expectRecipe(t, before+line+"\nlet", number, want)
}

func expectLines(t *testing.T, want api.Errno, lines ...string) {
	t.Helper()
	for _, line := range lines {
		expectLine(t, line, want)
	}
}

// expectType expects a scheme: its matrices are written as [[1 2] [0 3]].
func expectType(t *testing.T, source, name string, params int, free, fixed string) {
	t.Helper()
	s, e := recipe.Type(source, name)
	if e != api.OK || s.Params != params || fmt.Sprint(s.Free) != free || fmt.Sprint(s.Fixed) != fixed {
		t.Errorf("Type(%s, %q) = %.300v, error %d, want %d %.300s %.300s", short(source), name, s, e, params, free, fixed)
	}
}

func expectTypeError(t *testing.T, source, name string, want api.Errno) {
	t.Helper()
	s, e := recipe.Type(source, name)
	expectZero(t, "Type", s, e)
	if e != want {
		t.Errorf("Type(%s, %q): error %d, want %d", short(source), name, e, want)
	}
}

// expectValue expects a result: its exponents are written as [1 0].
func expectValue(t *testing.T, source, name string, args qtys, scale nums, want api.Num, dim string) {
	t.Helper()
	q, e := recipe.Eval(source, name, args, scale)
	if e != api.OK || q.Value != want || fmt.Sprint(q.Dim) != dim {
		t.Errorf("Eval(%s, %q, %.100v, %.100v) = %.100v, error %d, want %.100v %s", short(source), name, args, scale, q, e, want, dim)
	}
}

func expectEvalError(t *testing.T, source, name string, args qtys, scale nums, want api.Errno) {
	t.Helper()
	q, e := recipe.Eval(source, name, args, scale)
	expectZero(t, "Eval", q, e)
	if e != want {
		t.Errorf("Eval(%s, %q, %.100v, %.100v): error %d, want %d", short(source), name, args, scale, e, want)
	}
}

func expectAllows(t *testing.T, s scheme, unit int, exponents []int, want bool) {
	t.Helper()
	if got, e := recipe.Allows(s, unit, exponents); e != api.OK || got != want {
		t.Errorf("Allows(%.300v, %d, %v) = %t, error %d, want %t", s, unit, exponents, got, e, want)
	}
}

func expectAllowsError(t *testing.T, s scheme, unit int, exponents []int) {
	t.Helper()
	if got, e := recipe.Allows(s, unit, exponents); got || e != api.ErrArg {
		t.Errorf("Allows(%.300v, %d, %v) = %t, error %d, want error %d", s, unit, exponents, got, e, api.ErrArg)
	}
}

// row reads a vector: Nums that are separated by blanks.
func row(text string) nums {
	var out nums
	for _, x := range strings.Fields(text) {
		out = append(out, api.Num(x))
	}
	return out
}

// rows reads vectors that are separated by semicolons.
func rows(text string) []nums {
	var out []nums
	for _, part := range strings.Split(text, ";") {
		if part != "" {
			out = append(out, row(part))
		}
	}
	return out
}

func schemeOf(params int, free, fixed string) scheme {
	return scheme{Params: params, Free: rows(free), Fixed: rows(fixed)}
}

// one returns a quantity.
func one(value api.Num, dim ...int) qty { return qty{Value: value, Dim: dim} }

func repeated(n int, x string) string { return strings.Repeat(x, n) }

func numOf(x *big.Rat) api.Num { return api.Num(x.RatString()) }

func ratOf(x api.Num) *big.Rat {
	out, ok := new(big.Rat).SetString(string(x))
	if !ok || out.RatString() != string(x) {
		panic(string(x))
	}
	return out
}

// A menu is a random recipe in which all definitions are well typed, with its
// text.
type menu struct {
	lines []line
	text  string
	units []string
}

// someMenu returns random definitions behind random units, of which some may come
// later. It expects ErrType of all that are not well typed, and leaves them out.
func someMenu(t *testing.T, r *rand.Rand, count, depth int) menu {
	t.Helper()
	var m menu
	k := kitchen{r: r}
	for i := 0; i < count; i++ {
		if len(k.units) < api.MaxUnits && r.Intn(4) == 0 {
			l := line{sort: "unit", name: fmt.Sprintf("u%d", len(k.units))}
			k.units = append(k.units, l.name)
			m.lines = append(m.lines, l)
			continue
		}
		l := k.definition(fmt.Sprintf("d%d", i), r.Intn(depth+1))
		lines := append(slices.Clone(m.lines), l)
		if tokenCount(l) > api.MaxTokens*2/3 || sizeOf(lines, l.body) > 150 {
			continue
		}
		if !solve(lines, l, nil).isTyped() {
			expectRecipe(t, text(lines), len(lines), api.ErrType)
			continue
		}
		m.lines = lines
		if l.sort == "let" {
			k.lets = append(k.lets, l.name)
		} else {
			k.funs = append(k.funs, l)
		}
	}
	m.units, m.text = k.units, someText(r, m.lines)
	return m
}

// sizeOf returns how many parts an expression has, with all that it uses.
func sizeOf(lines []line, x *tree) int {
	size := 1
	for _, part := range x.parts {
		size += sizeOf(lines, part)
	}
	for _, l := range lines {
		if (x.kind == "name" || x.kind == "call") && l.name == x.text {
			size += sizeOf(lines, l.body)
		}
	}
	return size
}

// someValue returns a random value.
func someValue(r *rand.Rand) *big.Rat {
	if r.Intn(6) == 0 {
		return new(big.Rat)
	}
	return big.NewRat(int64(r.Intn(19)-9), int64(1+r.Intn(5)))
}

// someScale returns random worths of units.
func someScale(r *rand.Rand, units []string) (map[string]*big.Rat, nums) {
	of := map[string]*big.Rat{}
	var out nums
	for _, unit := range units {
		of[unit] = big.NewRat(int64(1+r.Intn(9)), int64(1+r.Intn(9)))
		out = append(out, numOf(of[unit]))
	}
	return of, out
}

// someVectors returns for each unit random exponents that a scheme allows, or now
// and then others.
func someVectors(r *rand.Rand, s scheme, wrong bool) [][]int {
	var out [][]int
	for _, fixed := range bigRows(s.Fixed) {
		v := fixed
		for _, row := range bigRows(s.Free) {
			v = combinedBig(v, row, big.NewInt(int64(r.Intn(5)-2)))
		}
		var exponents []int
		for _, x := range v {
			exponents = append(exponents, int(x.Int64()))
		}
		if wrong && r.Intn(2) == 0 {
			exponents[r.Intn(len(exponents))] += 1 - 2*r.Intn(2)
		}
		out = append(out, exponents)
	}
	return out
}
