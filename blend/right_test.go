package blend_test

import (
	"math/rand"
	"slices"
	"testing"

	"cracknel/api"
	"cracknel/blend"
)

func expectRight(t *testing.T, p api.Program, a api.Answer, want bool) {
	t.Helper()
	if got, e := blend.Right(p, a); got != want || e != api.OK {
		t.Errorf("Right(%v, %v) = %t, %d, want %t", p, a, got, e, want)
	}
}

func expectRightError(t *testing.T, p api.Program, a api.Answer, want api.Errno) {
	t.Helper()
	if got, e := blend.Right(p, a); got || e != want {
		t.Errorf("Right(%.200v, %.200v) = %t, %d, want error %d", p, a, got, e, want)
	}
}

func optimal(x, value, y string) api.Answer {
	return api.Answer{Kind: api.Optimal, X: vec(x), Value: api.Num(value), Y: vec(y)}
}

func infeasible(y string) api.Answer { return api.Answer{Kind: api.Infeasible, Y: vec(y)} }

func unbounded(x, ray string) api.Answer {
	return api.Answer{Kind: api.Unbounded, X: vec(x), Ray: vec(ray)}
}

func TestRightOptima(t *testing.T) {
	p := prog("2 3", "1 1 >= 4", "1 0 <= 3")
	expectRight(t, p, optimal("3 1", "9", "3 -1"), true)
	for _, a := range []api.Answer{
		optimal("2 2", "10", "3 -1"), optimal("2 2", "9", "3 -1"), optimal("3 1", "9", "3 0"), optimal("3 1", "9", "2 1"),
		optimal("3 1", "8", "3 -1"), optimal("4 0", "8", "2 0"), optimal("3 1", "9", "3 -2"), optimal("3 1", "9", "9/4 0"),
		optimal("3 1", "9", "-3 1"), optimal("5 -1", "7", "7/4 0"), optimal("3 0", "6", "3/2 0"), optimal("0 4", "12", "3 0"),
	} {
		expectRight(t, p, a, false)
	}
	// Other multipliers, and other optima, are as right as Solve's.
	q := prog("1 1", "1 1 >= 1", "2 2 >= 2")
	for _, x := range []string{"1 0", "0 1", "1/3 2/3"} {
		for _, y := range []string{"1 0", "0 1/2", "1/3 1/3"} {
			expectRight(t, q, optimal(x, "1", y), true)
		}
		expectRight(t, q, optimal(x, "1", "1/3 1/4"), false)
		expectRight(t, q, optimal(x, "1", "2 -1/2"), false)
	}
	expectRight(t, q, optimal("1/3 3/4", "13/12", "1 0"), false)
	// Multipliers of equations have any sign.
	expectRight(t, prog("1", "1 = 2", "-1 = -2"), optimal("2", "2", "-4 -5"), true)
	expectRight(t, prog("1", "1 >= 2", "1 <= 2"), optimal("2", "2", "2 -1"), true)
	expectRight(t, prog("1", "1 <= 2", "1 >= 2"), optimal("2", "2", "2 -1"), false)
	expectRight(t, prog("3"), optimal("0", "0", ""), true)
	expectRight(t, prog("0"), optimal("7", "0", ""), true)
	expectRight(t, prog("-1"), optimal("0", "0", ""), false)
}

func TestRightRefusals(t *testing.T) {
	p := prog("1", "1 >= 2", "1 <= 1")
	for y, want := range map[string]bool{
		"1 -1": true, "1/7 -1/7": true, "1 -3/2": true, "3 -4": true, "1 -2": false, "0 0": false, "-1 1": false, "1 1": false,
		"1 0": false, "0 -1": false, "2 -1": false, "1 -1 0": false, "1": false, "": false,
	} {
		expectRight(t, p, infeasible(y), want)
	}
	expectRight(t, prog("1 1", "1 1 = -1"), infeasible("-1"), true)
	expectRight(t, prog("1 1", "1 -1 = -1"), infeasible("-1"), false)
	expectRight(t, prog("1 1", "0 0 = 1/5"), infeasible("1"), true)
	expectRight(t, prog("1 1", "0 0 = -1/5"), infeasible("-1"), true)
	expectRight(t, prog("1 1", "0 0 = 0"), infeasible("1"), false)
	expectRight(t, prog("1 1"), infeasible(""), false)
}

func TestRightRays(t *testing.T) {
	p := prog("-1 1", "1 -1 <= 3", "0 1 >= 1")
	expectRight(t, prog("-1"), unbounded("0", "1"), true)
	expectRight(t, prog("-1"), unbounded("9", "1/9"), true)
	expectRight(t, prog("-1"), unbounded("-1", "1"), false)
	expectRight(t, prog("-1"), unbounded("0", "0"), false)
	expectRight(t, prog("-1"), unbounded("0", "-1"), false)
	expectRight(t, prog("1"), unbounded("0", "1"), false)
	expectRight(t, p, unbounded("0 1", "1 1"), false)
	p.Cost = vec("-2 1")
	expectRight(t, p, unbounded("0 1", "1 1"), true)
	expectRight(t, p, unbounded("4 1", "7 7"), true)
	for _, a := range []api.Answer{
		unbounded("0 0", "1 1"), unbounded("5 1", "1 1"), unbounded("0 1", "2 1"), unbounded("0 1", "0 1"), unbounded("0 1", "1 2"),
		unbounded("0 1", "1 0"), unbounded("0 1", "-1 -3"), unbounded("0 1", "0 0"),
	} {
		expectRight(t, p, a, false)
	}
	q := prog("-1 0", "1 -1 = 2")
	expectRight(t, q, unbounded("2 0", "1 1"), true)
	expectRight(t, q, unbounded("2 0", "1 2"), false)
	expectRight(t, q, unbounded("2 0", "2 1"), false)
	expectRight(t, q, unbounded("2 1", "1 1"), false)
	expectRight(t, q, unbounded("1 0", "1 1"), false)
}

// Fields that the case does not name are empty, the others have one element for
// each variable or row.
func TestFieldsOfAnswers(t *testing.T) {
	p := prog("2 3", "1 1 >= 4", "1 0 <= 3")
	right := optimal("3 1", "9", "3 -1")
	for _, kind := range []int{0, 4, -1, 99, 1 << 40, -1 << 62, api.Infeasible, api.Unbounded} {
		a := right
		a.Kind = kind
		expectRight(t, p, a, false)
		a.Value = ""
		expectRight(t, p, a, false)
		expectRight(t, p, api.Answer{Kind: kind}, false)
	}
	for _, v := range []string{"", "3", "3 1 0", "3 1 1 1"} {
		a := right
		a.X = vec(v)
		expectRight(t, p, a, false)
		a = right
		a.Y = vec(v)
		expectRight(t, p, a, false)
	}
	for _, ray := range []string{"0", "0 0", "1 1"} {
		a := right
		a.Ray = vec(ray)
		expectRight(t, p, a, false)
	}
	q, refusal := prog("1", "1 >= 2", "1 <= 1"), infeasible("1 -1")
	expectRight(t, q, refusal, true)
	for _, more := range []api.Answer{{X: vec("0")}, {X: vec("2")}, {Value: "0"}, {Ray: vec("0")}} {
		expectRight(t, q, api.Answer{Kind: api.Infeasible, Y: refusal.Y, X: more.X, Value: more.Value, Ray: more.Ray}, false)
	}
	for _, y := range [][]api.Num{nil, {}} {
		expectRight(t, prog("-1"), api.Answer{Kind: api.Unbounded, X: vec("0"), Ray: vec("1"), Y: y}, true)
	}
	expectRight(t, prog("-1"), api.Answer{Kind: api.Unbounded, X: vec("0"), Ray: vec("1"), Y: vec("0")}, false)
	expectRight(t, prog("-1"), api.Answer{Kind: api.Unbounded, X: vec("0"), Ray: vec("1"), Value: "0"}, false)
	expectRight(t, prog("-1"), unbounded("0 0", "1"), false)
	expectRight(t, prog("-1"), unbounded("0", "1 1"), false)
	expectRight(t, prog("-1"), unbounded("", "1"), false)
	expectRight(t, prog("-1"), unbounded("0", ""), false)
	expectRight(t, prog("-1", "0 <= 1"), api.Answer{Kind: api.Unbounded, X: vec("0"), Ray: vec("1"), Y: vec("0")}, false)
}

func TestErrorsOfRight(t *testing.T) {
	p := prog("2 3", "1 1 >= 4", "1 0 <= 3")
	for _, bad := range []api.Num{"-0", "4/2", "1/1", "", "1 ", api.Num(digits(api.MaxDigits+1, "1"))} {
		for _, kind := range []int{api.Optimal, api.Infeasible, api.Unbounded, 0, 7} {
			for _, a := range []api.Answer{{X: []api.Num{"3", bad}, Value: "9"}, {Y: []api.Num{bad}, Value: "9"}, {Ray: []api.Num{"1", "2", bad}, Value: "9"}, {Value: bad}} {
				a.Kind = kind
				if bad == "" && a.Value == "" && kind != api.Optimal {
					expectRight(t, p, a, false)
					expectRightError(t, api.Program{}, a, api.ErrArg)
					continue
				}
				expectRightError(t, p, a, api.ErrForm)
				expectRightError(t, api.Program{}, a, api.ErrForm)
			}
		}
		wrong := copied(p)
		wrong.Rows[1].Right = bad
		expectRightError(t, wrong, optimal("3 1", "9", "3 -1"), api.ErrForm)
	}
	expectRightError(t, api.Program{}, api.Answer{}, api.ErrArg)
	expectRightError(t, api.Program{}, optimal("", "0", ""), api.ErrArg)
	expectRightError(t, prog("1 2", "1 >= 3"), api.Answer{}, api.ErrArg)
	expectRightError(t, p, api.Answer{Kind: api.Optimal}, api.ErrForm)
}

// changed returns an answer with a small change.
func changed(r *rand.Rand, a api.Answer) api.Answer {
	out := api.Answer{Kind: a.Kind, X: slices.Clone(a.X), Value: a.Value, Y: slices.Clone(a.Y), Ray: slices.Clone(a.Ray)}
	part := [][]api.Num{out.X, out.Y, out.Ray}[r.Intn(3)]
	switch {
	case r.Intn(10) == 0:
		out.Value = small(r, 5)
	case len(part) > 0 && r.Intn(3) == 0:
		part[r.Intn(len(part))] = "0"
	case len(part) > 0:
		at := r.Intn(len(part))
		part[at] = num(rat(part[at]).Add(rat(part[at]), rat(small(r, 2))))
	}
	return out
}

// Right says what the definition says, of right answers and of others.
func TestRightAgainstDefinition(t *testing.T) {
	r := rand.New(rand.NewSource(31))
	var counts [2]int
	for range 4000 {
		p := someProgram(r, 1+r.Intn(4), r.Intn(5))
		a := solve(t, p)
		for range 5 {
			b := changed(r, a)
			want := plainOf(p).isRight(b)
			if want {
				counts[1]++
			} else {
				counts[0]++
			}
			expectRight(t, p, b, want)
		}
	}
	if counts[0] < 1000 || counts[1] < 1000 {
		t.Errorf("the answers are too much alike: %v", counts)
	}
}

// The numbers of an answer may be as long as Nums may be, and their sums longer.
func TestLongAnswers(t *testing.T) {
	r := rand.New(rand.NewSource(32))
	p := longProgram(r, api.MaxVars, api.MaxLimits, 40, 40, false)
	a := api.Answer{Kind: api.Infeasible}
	for k := range p.Rows {
		p.Rows[k].Kind = api.Equal
		a.Y = append(a.Y, longNum(r, api.MaxDigits, api.MaxDigits-1))
	}
	expectRight(t, p, a, false)
	a = api.Answer{Kind: api.Unbounded}
	for range p.Cost {
		a.X, a.Ray = append(a.X, longNum(r, api.MaxDigits, api.MaxDigits-1)), append(a.Ray, "0")
	}
	expectRight(t, p, a, false)
	// One digit at the end decides.
	long := api.Num("1" + digits(api.MaxDigits-1, "0"))
	expectRight(t, prog("1 1", "1 -1 <= 0"), optimal(string("1/"+long+" 1/"+long), "0", "0"), false)
	expectRight(t, prog("0 0", "1 -1 = 0"), optimal(string("1/"+long+" 1/"+long), "0", "0"), true)
	expectRight(t, prog("0 0", "1 -1 = 0"), optimal(string("1/"+long[:len(long)-1]+"1 1/"+long), "0", "0"), false)
	expectRight(t, prog("0 0", "1 -1 >= 0"), optimal(string("1/"+long[:len(long)-1]+"1 1/"+long), "0", "0"), false)
	expectRight(t, prog("0 0", "1 -1 <= 0"), optimal(string("1/"+long[:len(long)-1]+"1 1/"+long), "0", "0"), true)
	expectRight(t, prog("1", "1 >= 0"), infeasible(string("1/"+long)), false)
	expectRight(t, prog("1", "0 = 1"), infeasible(string("1/"+long)), true)
}
