package linear_test

import (
	"slices"
	"testing"

	"cracknel/api"
	"cracknel/linear"
	"cracknel/number"
)

func of(n ...int) []number.Integer {
	var out []number.Integer
	for _, x := range n {
		out = append(out, number.Of(x))
	}
	return out
}

func same(a, b []number.Integer) bool {
	return slices.EqualFunc(a, b, func(x, y number.Integer) bool { return x.Compare(y) == 0 })
}

func rows() []linear.Row {
	return linear.Rows(api.Program{Cost: []api.Num{"1", "1"}, Rows: []api.Row{
		{Coef: []api.Num{"1/2", "-2/3"}, Kind: api.AtMost, Right: "1/4"},
		{Coef: []api.Num{"3", "0"}, Kind: api.AtLeast, Right: "-5"},
		{Coef: []api.Num{"0", "1/7"}, Kind: api.Equal, Right: "0"},
	}})
}

func TestForms(t *testing.T) {
	for k, want := range [][]int{{6, -8, 3, 12}, {3, 0, -5, 1}, {0, 1, 0, 7}} {
		r := rows()[k]
		if !same(append(slices.Clone(r.Coef), r.Right, r.Factor), of(want...)) {
			t.Errorf("row %d is %v", k, r)
		}
	}
	if f := linear.NewForm(nil, "-3/2"); len(f.Coef) > 0 || !same([]number.Integer{f.Right, f.Factor}, of(-3, 2)) {
		t.Errorf("a form without variables is %v", f)
	}
	if rows := linear.Rows(api.Program{}); len(rows) > 0 {
		t.Errorf("no rows are %v", rows)
	}
}

func TestGaps(t *testing.T) {
	// At (1/2, 0) the first row is 1/4, and the second one is 13/2 above -5.
	for k, want := range []int{0, 13, 0} {
		if gap := rows()[k].Gap(of(1, 0), number.Of(2)); gap.Compare(number.Of(want)) != 0 {
			t.Errorf("the gap of row %d is %v, want %d", k, gap, want)
		}
	}
	if gap := rows()[0].Gap(of(1, 2), number.Integer{}); gap.Compare(number.Of(-10)) != 0 {
		t.Errorf("the gap of a direction is %v", gap)
	}
	for k, want := range [][3]bool{{true, true, false}, {false, true, true}, {false, true, false}} {
		for sign := -1; sign <= 1; sign++ {
			if got := rows()[k].Allows(sign); got != want[sign+1] {
				t.Errorf("row %d allows %d: %t", k, sign, got)
			}
		}
	}
}

func TestMultipliers(t *testing.T) {
	for _, c := range []struct {
		y    []api.Num
		want bool
	}{
		{[]api.Num{"0", "0", "0"}, true}, {[]api.Num{"-1/2", "7", "-3"}, true}, {[]api.Num{"-1", "0", "3"}, true},
		{[]api.Num{"1/9", "0", "0"}, false}, {[]api.Num{"0", "-1/9", "0"}, false}, {[]api.Num{"1", "-1", "1"}, false},
	} {
		if got := linear.HaveSigns(rows(), number.Values(c.y)); got != c.want {
			t.Errorf("the signs of %v: %t", c.y, got)
		}
	}
	// -1/2 of the first row and 1/3 of the second one: 3/4, 1/3, and -43/24.
	sum := linear.Combined(rows(), number.Values([]api.Num{"-1/2", "1/3", "0"}), 2)
	for i, want := range []number.Ratio{number.Value("3/4"), number.Value("1/3"), number.Value("-43/24")} {
		got := number.New(append(slices.Clone(sum.Coef), sum.Right)[i], sum.Factor)
		if got.Compare(want) != 0 {
			t.Errorf("the sum is %v", sum)
		}
	}
	if sum := linear.Combined(nil, nil, 3); len(sum.Coef) != 3 || !sum.Right.IsZero() || sum.Factor.Sign() <= 0 {
		t.Errorf("the sum of no rows is %v", sum)
	}
}
