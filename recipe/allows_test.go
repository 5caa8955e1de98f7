package recipe_test

import (
	"math"
	"math/big"
	"math/rand"
	"testing"

	"cracknel/api"
	"cracknel/recipe"
)

func TestAllows(t *testing.T) {
	square := schemeOf(1, "1 2", "0 0;1 0")
	for a := -4; a <= 4; a++ {
		for b := -9; b <= 9; b++ {
			expectAllows(t, square, 0, []int{a, b}, b == 2*a)
			expectAllows(t, square, 1, []int{a, b}, b == 2*a-2)
		}
	}
	none := schemeOf(0, "", "1;0;-7")
	even := schemeOf(0, "2", "1;0;-7")
	all := schemeOf(0, "1", "1;0;-7")
	for n := -9; n <= 9; n++ {
		for unit, fixed := range []int{1, 0, -7} {
			expectAllows(t, none, unit, []int{n}, n == fixed)
			expectAllows(t, even, unit, []int{n}, (n-fixed)%2 == 0)
			expectAllows(t, all, unit, []int{n}, true)
		}
	}
	four := schemeOf(4, "1 0 0 2 0;0 3 0 1 0;0 0 0 5 5", "0 0 0 0 0;0 1 0 0 0")
	expectAllows(t, four, 0, []int{0, 0, 0, 0, 0}, true)
	expectAllows(t, four, 0, []int{1, 3, 0, 8, 5}, true)
	expectAllows(t, four, 1, []int{1, 4, 0, 8, 5}, true)
	expectAllows(t, four, 1, []int{1, 3, 0, 8, 5}, false)
	expectAllows(t, four, 0, []int{1, 3, 1, 8, 5}, false)
	expectAllows(t, four, 0, []int{1, 3, 0, 8, 6}, false)
	expectAllows(t, four, 0, []int{1, 3, 0, 7, 4}, false)
	expectAllows(t, four, 0, []int{1, 2, 0, 8, 5}, false)
	expectAllows(t, four, 0, []int{-1, -3, 0, -8, -5}, true)
}

// Fixed need not be reduced, and its vectors may be more than any recipe has units.
func TestAllowsOfOtherSchemes(t *testing.T) {
	far := schemeOf(1, "3 1;0 7", "-50 4;100 100;0 0;1 1;2 2;3 3;4 4;5 5")
	for unit, v := range [][2]int{{-50, 4}, {100, 100}, {0, 0}, {1, 1}, {2, 2}, {3, 3}, {4, 4}, {5, 5}} {
		for a := range 7 {
			for b := range 15 {
				z := a - v[0]
				isIn := z%3 == 0 && (b-v[1]-z/3)%7 == 0
				expectAllows(t, far, unit, []int{a, b}, isIn)
			}
		}
	}
	expectAllows(t, schemeOf(0, "", "5"), 0, []int{5}, true)
}

// Schemes that are none.
func TestNoSchemes(t *testing.T) {
	for _, s := range []scheme{
		{}, schemeOf(0, "", ""), schemeOf(0, "1", ""), schemeOf(1, "1 2", ""),
		schemeOf(-1, "", "0"), schemeOf(-1, "", ";"), schemeOf(5, "", "0 0 0 0 0 0"), schemeOf(math.MaxInt, "", "0"), schemeOf(math.MinInt, "", "0"),
		schemeOf(0, "1;1", "0"), schemeOf(0, "1;0", "0"), schemeOf(0, "0", "0"), schemeOf(0, "-1", "0"), schemeOf(0, "0;1", "0"),
		schemeOf(1, "1 0;0 1;0 0", "0 0"), schemeOf(1, "0 1;1 0", "0 0"), schemeOf(1, "1 1;0 1", "0 0"), schemeOf(1, "1 -1;0 2", "0 0"), schemeOf(1, "1 2;0 2", "0 0"), schemeOf(1, "1 2;1 3", "0 0"), schemeOf(1, "-1 2", "0 0"), schemeOf(1, "0 0", "0 0"), schemeOf(1, "1 2;0 0", "0 0"), schemeOf(1, "1 0;0 -1", "0 0"),
		schemeOf(1, "1", "0 0"), schemeOf(1, "1 2 3", "0 0"), schemeOf(1, "1 2", "0"), schemeOf(1, "1 2", "0 0 0"), schemeOf(1, "1 2", "0 0;1"), schemeOf(0, "1 0", "0"), schemeOf(1, "1 0;1", "0 0"),
		schemeOf(1, "1/2 1", "0 0"), schemeOf(1, "1 2", "1/2 0"), schemeOf(1, "1 x", "0 0"), schemeOf(1, "1 2", "0 x"), schemeOf(1, "1 -0", "0 0"), schemeOf(1, "1 02", "0 0"), schemeOf(1, "1 2", "0 +1"), schemeOf(1, "1 2", "0 0;0 2/1"), schemeOf(1, "1 2/2", "0 0"),
		{Params: 0, Free: []nums{{}}, Fixed: []nums{{"0"}}}, {Params: 0, Free: []nums{nil}, Fixed: []nums{{"0"}}}, {Params: 0, Fixed: []nums{{"0"}, nil}}, {Params: 0, Fixed: []nums{{""}}}, {Params: 0, Free: []nums{{""}}, Fixed: []nums{{"0"}}},
		{Params: 0, Fixed: []nums{{api.Num(repeated(api.MaxDigits+1, "1"))}}}, {Params: 0, Free: []nums{{api.Num(repeated(api.MaxDigits+1, "1"))}}, Fixed: []nums{{"0"}}},
	} {
		for _, unit := range []int{0, 1, -1} {
			for count := range 8 {
				expectAllowsError(t, s, unit, make([]int, count))
			}
		}
	}
}

// Units that are out of range, and exponents too few and too many.
func TestAllowsArguments(t *testing.T) {
	for params := range api.MaxParams + 1 {
		s := scheme{Params: params, Fixed: []nums{make(nums, params+1), make(nums, params+1)}}
		for i := range params + 1 {
			s.Fixed[0][i], s.Fixed[1][i] = "0", "0"
		}
		for _, unit := range []int{-1, 2, 3, 4, math.MaxInt, math.MinInt, 1 << 32} {
			expectAllowsError(t, s, unit, make([]int, params+1))
		}
		for _, count := range []int{0, 1, 2, 3, 4, 5, 6, 100} {
			if count != params+1 {
				expectAllowsError(t, s, 0, make([]int, count))
				expectAllowsError(t, s, 1, make([]int, count))
			}
		}
		expectAllows(t, s, 0, make([]int, params+1), true)
		expectAllows(t, s, 1, make([]int, params+1), true)
	}
}

// Exponents of any size, and schemes of MaxDigits digits.
func TestAllowsOfLongNumbers(t *testing.T) {
	far := []int{math.MaxInt, math.MinInt, math.MinInt + 1, 1 << 62, -1 << 62}
	for _, n := range far {
		expectAllows(t, schemeOf(0, "1", "0"), 0, []int{n}, true)
		expectAllows(t, schemeOf(0, "2", "0"), 0, []int{n}, n%2 == 0)
		expectAllows(t, schemeOf(0, "", "0"), 0, []int{n}, false)
		expectAllows(t, schemeOf(0, "", numText(n)), 0, []int{n}, true)
		expectAllows(t, schemeOf(1, "1 1", "0 0"), 0, []int{n, n}, true)
		expectAllows(t, schemeOf(1, "1 2", "0 0"), 0, []int{n, n}, false)
	}
	most := repeated(api.MaxDigits, "9")
	ten := "1" + repeated(api.MaxDigits-1, "0")
	for _, s := range []scheme{schemeOf(0, most, most), schemeOf(0, most, "-"+most), schemeOf(0, most, "0"), schemeOf(1, "1 "+most, "1 "+most), schemeOf(1, "1 "+most, "-1 -"+most)} {
		exponents := make([]int, s.Params+1)
		expectAllows(t, s, 0, exponents, true)
		exponents[0] = 1
		expectAllows(t, s, 0, exponents, false)
	}
	// The difference of the exponents and Fixed has more than MaxDigits digits.
	expectAllows(t, schemeOf(0, "", "-"+most), 0, []int{1}, false)
	expectAllows(t, schemeOf(0, ten, "-"+most), 0, []int{1}, true)
	expectAllows(t, schemeOf(0, "2", "-"+most), 0, []int{1}, true)
	expectAllows(t, schemeOf(0, "2", "-"+most), 0, []int{2}, false)
	// So have combinations on the way.
	expectAllows(t, schemeOf(2, "1 "+ten+" 0;0 "+most+" "+most, most+" "+most+" "+most), 0, []int{0, 0, 0}, false)
}

func numText(n int) string { return big.NewInt(int64(n)).String() }

// Random schemes: what is allowed is Fixed and combinations of Free.
func TestRandomSchemes(t *testing.T) {
	r := rand.New(rand.NewSource(3))
	allowed, refused := 0, 0
	for range 3000 {
		s := someScheme(r)
		free, fixed := bigRows(s.Free), bigRows(s.Fixed)
		for _, v := range someVectors(r, s, true) {
			unit := r.Intn(len(fixed))
			var exponents []*big.Int
			for _, n := range v {
				exponents = append(exponents, big.NewInt(int64(n)))
			}
			want := isCombination(combinedBig(exponents, fixed[unit], big.NewInt(-1)), free)
			expectAllows(t, s, unit, v, want)
			if want {
				allowed++
			} else {
				refused++
			}
		}
	}
	if allowed < 1000 || refused < 1000 {
		t.Errorf("%d allowed, %d refused", allowed, refused)
	}
}

// someScheme returns a random scheme, whose Fixed may not be reduced.
func someScheme(r *rand.Rand) scheme {
	s := scheme{Params: r.Intn(api.MaxParams + 1)}
	width := s.Params + 1
	var free [][]*big.Int
	for column := range width {
		if r.Intn(2) == 0 {
			continue
		}
		row := make([]*big.Int, width)
		for i := range row {
			row[i] = new(big.Int)
			if i > column {
				row[i].SetInt64(int64(r.Intn(9) - 4))
			}
		}
		row[column].SetInt64(int64(1 + r.Intn(4)))
		free = append(free, row)
	}
	for k := len(free) - 1; k >= 0; k-- {
		for i := range k {
			column := pivotOf(free[k])
			quotient := new(big.Int).Div(free[i][column], free[k][column])
			free[i] = combinedBig(free[i], free[k], quotient.Neg(quotient))
		}
	}
	for k := range free {
		for j := k + 1; j < len(free); j++ {
			column := pivotOf(free[j])
			quotient := new(big.Int).Div(free[k][column], free[j][column])
			free[k] = combinedBig(free[k], free[j], quotient.Neg(quotient))
		}
	}
	s.Free = numRows(free)
	for range 1 + r.Intn(3) {
		v := make(nums, width)
		for i := range v {
			v[i] = api.Num(numText(r.Intn(9) - 4))
		}
		s.Fixed = append(s.Fixed, v)
	}
	return s
}

func numRows(rows [][]*big.Int) []nums {
	var out []nums
	for _, row := range rows {
		var line nums
		for _, x := range row {
			line = append(line, api.Num(x.String()))
		}
		out = append(out, line)
	}
	return out
}

// What Type returns is a scheme.
func TestAllowsOfTypes(t *testing.T) {
	r := rand.New(rand.NewSource(4))
	for range 200 {
		m := someMenu(t, r, 5, 3)
		for _, l := range m.lines {
			if l.sort == "unit" || len(m.units) == 0 {
				continue
			}
			s, e := recipe.Type(m.text, l.name)
			if e != api.OK {
				t.Fatalf("Type(%q, %s): error %d", m.text, l.name, e)
			}
			for unit, v := range someVectors(r, s, false) {
				expectAllows(t, s, unit, v, true)
			}
		}
	}
}
