package recipe_test

import (
	"fmt"
	"math"
	"math/rand"
	"reflect"
	"slices"
	"strings"
	"testing"

	"cracknel/api"
	"cracknel/recipe"
)

// words returns what odd recipes are made of.
func words() []string {
	return strings.Split("unit |let |fun |if | then | else |kg|m|a|b|x|f|g|0|1|2|9|0.5|12|=|= |+|-|*|/|(|)|[|]|^|,|<|\n|\n|\n| |\t|.|é|\x00|\xff|A|_|let x = |fun f(a) = |unit kg\n|f(a)|[kg]|^2|^-9|*0", "|")
}

// someSource returns an odd recipe, or one that is nearly right.
func someSource(t *testing.T, r *rand.Rand) string {
	t.Helper()
	if r.Intn(2) == 0 {
		out := ""
		for range r.Intn(30) {
			out += pick(r, words())
		}
		return out
	}
	out := someMenu(t, r, 4, 2).text
	for range 1 + r.Intn(2) {
		at := r.Intn(len(out) + 1)
		out = out[:at] + pick(r, words()) + out[min(len(out), at+r.Intn(3)):]
	}
	return out
}

func someOddQuantity(r *rand.Rand) qty {
	out := qty{Value: pick(r, nums{"0", "1", "-1/2", "7", "x", "", "1/0", "-0"})}
	for range r.Intn(3) {
		out.Dim = append(out.Dim, pick(r, []int{0, 0, 1, -1, 2, 1000, -1000, 1001, math.MaxInt, math.MinInt}))
	}
	return out
}

// R1: whatever the arguments are, all functions return, and R3 holds. All functions
// agree on what is wrong with a recipe.
func TestOddArguments(t *testing.T) {
	r := rand.New(rand.NewSource(10))
	seen := map[api.Errno]int{}
	for range 6000 {
		source := someSource(t, r)
		line, e := recipe.Check(source)
		seen[e]++
		if (line == 0) != (e == api.OK) || line < 0 || line > 1+strings.Count(source, "\n") {
			t.Errorf("Check(%q) = %d, error %d", source, line, e)
		}
		name := pick(r, []string{"x", "f", "d0", "d1", "d2", "d3", "kg", ""})
		s, f := recipe.Type(source, name)
		expectZero(t, "Type", s, f)
		var args qtys
		for range r.Intn(4) {
			args = append(args, someOddQuantity(r))
		}
		q, g := recipe.Eval(source, name, args, slices.Repeat(nums{pick(r, nums{"1", "2", "1/2", "0"})}, r.Intn(3)))
		expectZero(t, "Eval", q, g)
		if e != api.OK && (e != f || e != g) || e == api.OK && (f == api.OK) != (g != api.ErrNone) {
			t.Errorf("%q, %q: errors %d, %d, %d", source, name, e, f, g)
		}
	}
	for _, e := range []api.Errno{api.OK, api.ErrForm, api.ErrName} {
		if seen[e] < 30 {
			t.Errorf("errors: %v", seen)
		}
	}
}

func TestOddSchemes(t *testing.T) {
	r := rand.New(rand.NewSource(11))
	for range 20000 {
		s := someScheme(r)
		number := func() api.Num {
			return pick(r, nums{"0", "1", "-1", "2", "5", "x", "", "-0", "1/2", "99999999999999999999"})
		}
		switch r.Intn(6) {
		case 0:
			s.Params = pick(r, []int{-1, 0, 1, 4, 5, math.MaxInt, math.MinInt})
		case 1:
			s.Fixed[0][r.Intn(len(s.Fixed[0]))] = number()
		case 2:
			if len(s.Free) > 0 {
				s.Free[0][r.Intn(len(s.Free[0]))] = number()
			}
		case 3:
			s.Free = append(s.Free, slices.Repeat(nums{number()}, r.Intn(6)))
		case 4:
			s.Fixed = append(s.Fixed, slices.Repeat(nums{number()}, r.Intn(6)))
		}
		ok, e := recipe.Allows(s, pick(r, []int{0, 0, 0, 1, 2, -1, math.MinInt, math.MaxInt}), make([]int, s.Params&7+1))
		if e != api.OK && (ok || e != api.ErrArg) {
			t.Errorf("Allows(%v) = %t, error %d", s, ok, e)
		}
	}
}

// R4: a nil slice and an empty one are the same.
func TestNilAndEmpty(t *testing.T) {
	expectValue(t, "let x = 1", "x", nil, nil, "1", "[]")
	expectValue(t, "let x = 1", "x", qtys{}, nums{}, "1", "[]")
	expectValue(t, "fun f(a) = a", "f", qtys{one("1")}, nums{}, "1", "[]")
	expectValue(t, "fun f(a) = a", "f", qtys{{Value: "1", Dim: []int{}}}, nil, "1", "[]")
	expectAllows(t, scheme{Fixed: []nums{{"1"}}}, 0, []int{1}, true)
	expectAllows(t, scheme{Free: []nums{}, Fixed: []nums{{"1"}}}, 0, []int{1}, true)
	expectAllowsError(t, scheme{Free: []nums{}, Fixed: []nums{}}, 0, []int{1})
	expectAllowsError(t, scheme{}, 0, []int{})
	expectAllowsError(t, scheme{Fixed: []nums{{"1"}}}, 0, nil)
	expectEvalError(t, "fun f(a) = a", "f", qtys{}, nil, api.ErrArg)
	expectEvalError(t, "unit kg\nlet x = 1", "x", nil, nums{}, api.ErrArg)
}

// R5 and P6: arguments stay as they are, and results share no memory with them or
// with one another.
func TestMemory(t *testing.T) {
	const source = "unit kg\nunit m\nunit s\nfun f(a, b) = a*b*1 [kg]\nfun g(a) = a\n"
	args := qtys{one("3", 1, 2, 3), one("5", 4, 5, 6)}
	scale := nums{"2", "1/3", "7"}
	for range 3 {
		q, e := recipe.Eval(source, "f", args, scale)
		if e != api.OK || q.Value != "30" || !slices.Equal(q.Dim, []int{6, 7, 9}) {
			t.Fatalf("%v, error %d", q, e)
		}
		spoilInts(q.Dim)
		q, e = recipe.Eval(source, "g", args[:1], scale)
		if e != api.OK || q.Value != "3" || !slices.Equal(q.Dim, []int{1, 2, 3}) {
			t.Fatalf("%v, error %d", q, e)
		}
		spoilInts(q.Dim)
		s, e := recipe.Type(source, "f")
		if e != api.OK || fmt.Sprint(s) != "{2 [[1 0 1] [0 1 1]] [[0 0 1] [0 0 0] [0 0 0]]}" {
			t.Fatalf("%v, error %d", s, e)
		}
		all := slices.Concat(s.Free, s.Fixed)
		for i, row := range all {
			others := fmt.Sprint(all[:i], all[i+1:])
			spoilNums(row)
			if fmt.Sprint(all[:i], all[i+1:]) != others {
				t.Fatalf("rows share their memory: %v", s)
			}
		}
		spoilRows(s.Free)
		spoilRows(s.Fixed)
	}
	if !reflect.DeepEqual(args, qtys{one("3", 1, 2, 3), one("5", 4, 5, 6)}) || !slices.Equal(scale, nums{"2", "1/3", "7"}) {
		t.Errorf("%v, %v", args, scale)
	}
	s := schemeOf(1, "3 1;0 7", "-50 4;100 100")
	exponents := []int{5, 6}
	expectAllows(t, s, 1, exponents, false)
	expectAllows(t, s, 0, exponents, false)
	if !reflect.DeepEqual(s, schemeOf(1, "3 1;0 7", "-50 4;100 100")) || !slices.Equal(exponents, []int{5, 6}) {
		t.Errorf("%v, %v", s, exponents)
	}
}

// spoilInts and those below it overwrite what a slice has, up to its capacity.
func spoilInts(list []int) {
	for i := range list[:cap(list)] {
		list[:cap(list)][i] = -77
	}
}

func spoilNums(list nums) {
	for i := range list[:cap(list)] {
		list[:cap(list)][i] = "?"
	}
}

func spoilRows(list []nums) {
	for i := range list[:cap(list)] {
		list[:cap(list)][i] = nil
	}
}

// R6: the same arguments have the same results, whatever was called before.
func TestRepeatable(t *testing.T) {
	r := rand.New(rand.NewSource(12))
	var all []task
	for range 60 {
		m := someMenu(t, r, 8, 3)
		for _, l := range m.lines {
			if k, ok := someTask(r, m, l, false); ok && l.sort != "unit" {
				all = append(all, k)
			}
		}
	}
	var results []string
	for round := range 3 {
		for i, k := range all {
			s, e := recipe.Type(k.m.text, k.l.name)
			q, f := eval(k)
			got := fmt.Sprint(s, e, q, f)
			if round == 0 {
				results = append(results, got)
			} else if got != results[i] {
				t.Errorf("%q, %s: %s, and then %s", k.m.text, k.l.name, results[i], got)
			}
		}
	}
}
