package line_test

import (
	"math/big"
	"math/rand"
	"strings"
	"testing"

	"cracknel/api"
	"cracknel/line"
)

func TestPotentialsByHand(t *testing.T) {
	example := graph("0 1 3, 1 0 2, 0 0 2")
	expectValues(t, 2, example, "5/2", "0 1/2")
	expectValues(t, 2, example, "3", "0 0")
	expectValues(t, 2, example, "8/3", "0 1/3")
	expectValues(t, 2, example, "100", "0 0")
	for _, m := range []api.Num{"2", "7/3", "0", "-1", "-100", "249/100"} {
		expectPotentials(t, 2, example, m, nil)
	}
	// A node with an arc to itself, below, at and above its mean.
	expectPotentials(t, 1, graph("0 0 -3"), "-4", nil)
	expectPotentials(t, 1, graph("0 0 -3"), "-7/2", nil)
	expectValues(t, 1, graph("0 0 -3"), "-3", "0")
	expectValues(t, 1, graph("0 0 -3"), "-5/2", "0")
	// Without a cycle there are potentials for each number.
	expectValues(t, 1, nil, "-5/2", "0")
	expectValues(t, 3, graph("0 1 3, 1 2 -4"), "0", "0 3 0")
	expectValues(t, 3, graph("0 1 3, 1 2 -4"), "-5", "0 8 9")
	expectValues(t, 3, graph("0 1 3, 1 2 -4"), "-1/3", "0 10/3 0")
	expectValues(t, 3, graph("0 1 3, 1 2 -4"), "7/2", "0 0 0")
	expectValues(t, 3, graph("2 1 1, 1 0 1, 2 0 1"), "0", "2 1 0")
	expectValues(t, 3, graph("2 1 1, 1 0 1, 2 0 3, 2 0 2"), "0", "3 1 0")
	expectValues(t, 3, graph("2 1 1, 1 0 1"), "-1000000", "2000002 1000001 0")
}

// Numbers of 40 digits are allowed, and those of more are not.
func TestLongNumbers(t *testing.T) {
	forty, more := strings.Repeat("9", 40), strings.Repeat("9", 41)
	as := graph("0 1 0, 1 2 5")
	expectValues(t, 3, as, api.Num("-"+forty), "0 "+forty+" 2"+strings.Repeat("0", 39)+"3")
	expectValues(t, 3, as, api.Num(forty), "0 0 0")
	expectValues(t, 3, as, api.Num("-1/"+forty), "0 1/"+forty+" 4"+strings.Repeat("9", 39)+"7/"+forty)
	expectValues(t, 3, as, api.Num("-"+forty[1:]+"8/"+forty), "0 "+forty[1:]+"8/"+forty+" 6"+strings.Repeat("9", 39)+"1/"+forty)
	expectPotentials(t, 1, graph("0 0 0"), api.Num("-1/"+forty), nil)
	expectValues(t, 1, graph("0 0 0"), api.Num("1/"+forty), "0")
	expectPotentials(t, 1, graph("0 0 1"), api.Num(forty[1:]+"8/"+forty), nil)
	expectPotentials(t, 1, graph("0 0 -1"), api.Num("-1"+strings.Repeat("0", 39)+"/"+forty[1:]), nil)
	for _, m := range []string{more, "-" + more, "1/" + more, more + "/2", "-1/" + more, more + "/" + more[1:] + "8", "1" + strings.Repeat("0", 40), strings.Repeat("9", api.MaxDigits), "1/" + strings.Repeat("9", api.MaxDigits), strings.Repeat("9", api.MaxDigits+1), strings.Repeat("1", 1000000)} {
		expectFormError(t, m)
	}
}

func expectFormError(t *testing.T, m string) {
	t.Helper()
	for _, as := range []arcs{nil, graph("0 0 1")} {
		y, e := line.Potentials(1, as, api.Num(m))
		expectError(t, "Potentials for "+m, y, e, api.ErrForm)
		y, e = line.Potentials(0, as, api.Num(m))
		expectError(t, "Potentials for "+m, y, e, api.ErrArg)
	}
}

func TestNoNumbers(t *testing.T) {
	for _, m := range []string{"", "-", "--1", "+1", "01", "00", "-0", "-01", "0/1", "0/2", "1/1", "2/4", "-2/4", "1/0", "0/0", "1/01", "1/-2", "-1/-2", "/", "1/", "/2", "1/2/3", "1.5", "1e3", " 1", "1 ", "1 /2", "x", "0x1", "1_0", "１", "1\n", "1\x00", "1,5", strings.Repeat("-", 50), strings.Repeat("/", 50), "-" + strings.Repeat("0", 40), "1/" + strings.Repeat("0", 39) + "2"} {
		expectFormError(t, m)
	}
}

// expectLeast compares Potentials with the longest ways to all nodes.
func expectLeast(t *testing.T, n int, as arcs, m *big.Rat) {
	t.Helper()
	want, _ := least(n, as, m)
	expectPotentials(t, n, as, numOf(m), want)
}

// Numbers below, equal to and above the greatest mean, near it and far from it.
func TestPotentials(t *testing.T) {
	r := rand.New(rand.NewSource(4))
	near := new(big.Rat).SetFrac(big.NewInt(1), new(big.Int).Exp(big.NewInt(10), big.NewInt(30), nil))
	for i := range 1500 {
		n := between(r, 1, 7)
		as := someGraph(r, n, r.Intn(3*n), []int{0, 1, 5, api.MaxTime}[i%4])
		_, mean := greatest(n, as)
		if mean == nil {
			mean = ratio(between(r, -9, 9), between(r, 1, 9))
		}
		expectLeast(t, n, as, mean)
		for _, by := range []*big.Rat{near, ratio(1, 7), ratio(1, 1), ratio(api.MaxTime, 3)} {
			expectLeast(t, n, as, new(big.Rat).Add(mean, by))
			expectLeast(t, n, as, new(big.Rat).Sub(mean, by))
		}
	}
}

func TestLargePotentials(t *testing.T) {
	r := rand.New(rand.NewSource(5))
	for i := range 40 {
		as := someGraph(r, api.MaxStates, []int{15, 30, api.MaxArcs}[i%3], []int{3, api.MaxTime}[i%2])
		text, _, e := line.Mean(api.MaxStates, as)
		mean := ratio(-1, 3)
		if e == api.OK {
			mean = rat(t, text)
		}
		expectLeast(t, api.MaxStates, as, mean)
		expectLeast(t, api.MaxStates, as, new(big.Rat).Add(mean, ratio(1, 1000)))
		expectLeast(t, api.MaxStates, as, new(big.Rat).Sub(mean, ratio(1, 1000)))
	}
	// The longest way passes all nodes, and each arc is the last one that is looked at.
	var down arcs
	for node := range api.MaxStates - 1 {
		down = append(down, arc{From: node + 1, To: node, Time: api.MaxTime})
	}
	expectLeast(t, api.MaxStates, down, ratio(0, 1))
	down = append(arcs{{From: 0, To: 15, Time: -15 * api.MaxTime / 16}}, down...)
	_, mean := greatest(api.MaxStates, down)
	expectLeast(t, api.MaxStates, down, mean)
	expectLeast(t, api.MaxStates, down, new(big.Rat).Sub(mean, ratio(1, 1000000)))
}
