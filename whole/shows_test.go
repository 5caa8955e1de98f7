package whole_test

import (
	"math"
	"math/rand"
	"slices"
	"strings"
	"testing"

	"cracknel/api"
	"cracknel/whole"
)

// A proof of the tests: "split 0 1, empty 1 0, bound -1 0".
func nodes(text string) []api.Node {
	out := []api.Node{}
	for _, part := range strings.Split(text, ",") {
		words := strings.Fields(part)
		rest := strings.Join(words[1:], " ")
		switch words[0] {
		case "split":
			n := ints(rest)
			out = append(out, api.Node{Kind: api.Split, Var: n[0], At: n[1]})
		case "bound":
			out = append(out, api.Node{Kind: api.Bound, Y: nums(rest)})
		case "empty":
			out = append(out, api.Node{Kind: api.Empty, Y: nums(rest)})
		}
	}
	return out
}

func copiedNodes(proof []api.Node) []api.Node {
	out := []api.Node{}
	for _, n := range proof {
		n.Y = slices.Clone(n.Y)
		out = append(out, n)
	}
	return out
}

// twoRows is example 1 with one row more; its least cost is 6.
func twoRows() task { return job("2 3", "0 0", "9 9", "2 2 >= 5", "1 0 <= 8") }

func TestShows(t *testing.T) {
	odd, a := job("0", "0", "5", "2 = 3"), twoRows()
	for _, c := range []struct {
		a     task
		limit api.Num
		proof string
		want  bool
	}{
		{odd, "", "split 0 1, empty 1, empty -1", true}, {odd, "7", "split 0 1, empty 1, empty -1", true},
		{odd, "", "split 0 1, empty 1/9, empty -7", true}, {odd, "", "split 0 0, empty 1, split 0 1, empty 1, empty -1", true},
		{odd, "", "split 0 4, split 0 1, empty 1, empty -1, empty -1", true}, {odd, "0", "bound 0", true}, {odd, "-5", "bound 0", true},
		// Bounds show no refusal, and no limit above them.
		{odd, "", "bound 0", false}, {odd, "1", "bound 0", false}, {odd, "", "split 0 1, bound 0, empty -1", false},
		{odd, "", "split 0 1, empty 1, bound 0", false}, {odd, "1", "split 0 1, bound 0, empty -1", false},
		{odd, "3", "bound 1", false}, {odd, "-7", "bound 1", true}, {odd, "-6", "bound 1", false}, {odd, "-8", "bound 1", true},
		// Multipliers that do not refuse the box.
		{odd, "", "split 0 1, empty -1, empty -1", false}, {odd, "", "split 0 1, empty 1, empty 1", false}, {odd, "", "empty 1", false},
		{odd, "", "split 0 0, empty 1, empty -1", false}, {odd, "", "split 0 2, empty 1, empty -1", false}, {odd, "", "split 0 1, empty 0, empty -1", false},
		// 5/2 units of 2 are 5: above 6 - 1 they must not only be equal to it.
		{a, "6", "bound 1 0", false}, {a, "5", "bound 1 0", true}, {a, "6", "split 1 0, bound 1 0, bound 1 0", false},
		{a, "6", "split 0 2, bound 3/2 0, bound 0 0", true}, {a, "6", "split 0 2, bound 3/2 0, split 0 3, bound 0 0, bound 0 0", true},
		{a, "7", "split 0 2, bound 3/2 0, bound 0 0", false}, {a, "6", "split 0 2, bound 3/2 -1, bound 0 0", false}, {a, "6", "split 0 3, bound 3/2 0, bound 0 0", false},
		{a, "6", "split 0 2, bound 3/2 -1/16, bound 0 0", true}, {a, "6", "split 1 1, bound 1 0, bound 0 0", false},
		{a, "-1000000000000000000000000000000000", "bound 0 -9999999999999", true}, {a, "-1", "bound 0 0", true}, {a, "1", "bound 0 0", false},
		{a, "0", "bound 0 0", true}, {a, "", "empty 0 0", false}, {a, "6", "empty 1 -1", false},
		// Signs.
		{a, "-1000", "bound -1 0", false}, {a, "-1000", "bound 0 1", false}, {a, "-1000", "bound -1/9 -1", false}, {a, "-1000", "bound 1 -1", true},
		// Lengths.
		{a, "0", "bound 0", false}, {a, "0", "bound", false}, {a, "0", "bound 0 0 0", false}, {odd, "", "split 0 1, empty, empty -1", false},
		{odd, "", "split 0 1, empty 1, empty -1 0", false}, {job("1", "2", "3"), "2", "bound", true}, {job("1", "2", "3"), "3", "bound", false},
		{job("1", "2", "3"), "3", "bound 0", false}, {job("1", "2", "3"), "2", "split 0 2, bound, bound", true}, {job("1", "2", "3"), "", "empty", false},
	} {
		expectShows(t, c.a, c.limit, nodes(c.proof), c.want)
		if got := c.a.shows(c.limit, nodes(c.proof)); got != c.want {
			t.Errorf("the definition says %t of %s", got, c.proof)
		}
	}
}

// Whatever is no proof shows nothing, not even a limit far below.
func TestMalformed(t *testing.T) {
	odd, a := job("0", "0", "5", "2 = 3"), twoRows()
	expectNone := func(a task, proof []api.Node) {
		t.Helper()
		for _, limit := range []api.Num{"", "0", "-999999999999999999999999"} {
			expectShows(t, a, limit, proof, false)
		}
	}
	for _, text := range []string{
		// Nodes are missing.
		"split 0 1", "split 0 1, empty 1", "split 0 1, split 0 0, empty 1, empty 1", "split 0 1, empty 1, split 0 2, empty -1",
		// Nodes are left over, or repeated.
		"split 0 1, empty 1, empty -1, empty -1", "split 0 1, empty 1, empty 1, empty -1", "split 0 1, split 0 1, empty 1, empty -1",
		"split 0 1, empty 1, empty -1, split 0 1", "bound 0, bound 0", "bound 0, split 0 1", "split 0 1, split 0 1, empty 1, empty -1, empty 1, empty -1",
		// They are in another order.
		"empty 1, split 0 1, empty -1", "empty 1, empty -1, split 0 1", "split 0 1, empty -1, empty 1",
		// At is out of the box at hand.
		"split 0 5, empty 1, empty -1", "split 0 -1, empty 1, empty -1", "split 0 6, bound 0, bound 0", "split 0 1, split 0 1, bound 0, bound 0, bound 0",
		"split 0 1, bound 0, split 0 1, bound 0, bound 0", "split 0 1, split 0 3, bound 0, bound 0, bound 0", "split 0 4, bound 0, split 0 5, bound 0, bound 0",
		"split 0 9223372036854775807, bound 0, bound 0", "split 0 -9223372036854775808, bound 0, bound 0",
		// There is no such variable.
		"split 1 1, empty 1, empty -1", "split -1 1, empty 1, empty -1", "split 9223372036854775807 1, bound 0, bound 0", "split -9223372036854775808 1, bound 0, bound 0",
	} {
		expectNone(odd, nodes(text))
	}
	expectNone(odd, nil)
	expectNone(odd, []api.Node{})
	for _, text := range []string{"split 0 1, empty 1, empty -1", "bound 0"} {
		proof := nodes(text)
		for i := range proof {
			for _, kind := range []int{0, 4, -1, math.MaxInt, math.MinInt} {
				wrong := copiedNodes(proof)
				wrong[i].Kind = kind
				expectNone(odd, wrong)
			}
			if proof[i].Kind == api.Split {
				wrong := copiedNodes(proof)
				wrong[i].Y = nums("0")
				expectNone(odd, wrong)
				continue
			}
			for _, n := range []int{1, -1, math.MaxInt} {
				wrong := copiedNodes(proof)
				wrong[i].Var = n
				expectNone(odd, wrong)
				wrong[i].Var, wrong[i].At = 0, n
				expectNone(odd, wrong)
			}
		}
	}
	expectNone(a, nodes("split 0 0, split 0 0, bound 0 0, bound 0 0, bound 0 0"))
	expectNone(a, nodes("split 1 8, bound 0 0, split 1 9, bound 0 0, bound 0 0"))
	expectNone(job("1", "4", "4"), nodes("split 0 4, bound, bound"))
}

// P2, W3: changed proofs. Shows says of them what the definition says, and none
// of them shows what is false.
func TestChangedProofs(t *testing.T) {
	r := rand.New(rand.NewSource(11))
	shown := 0
	for range 500 {
		n := between(r, 1, 3)
		a := someTask(r, n, between(r, 1, 4), []int{20, 6, 4}[n-1])
		limit := a.limit()
		proof := prove(t, a, limit)
		for range 20 {
			wrong, at := change(r, a, proof), limit
			switch r.Intn(8) {
			case 0:
				at = ""
			case 1:
				at = num(between(r, -20, 20))
			case 2:
				if limit != "" {
					at = api.Num(rat(limit).Add(rat(limit), rat("1")).RatString())
				}
			}
			got, e := whole.Shows(a.p, a.low, a.high, at, wrong)
			if want := a.shows(at, wrong); got != want || e != api.OK {
				t.Fatalf("Shows(%v, %q, %v) = %t, error %d, want %t", a, at, wrong, got, e, want)
			}
			if got && limit != "" && (at == "" || rat(at).Cmp(rat(limit)) > 0) {
				t.Fatalf("Shows(%v, %q, %v), though %s is a cost", a, at, wrong, limit)
			}
			if got {
				shown++
			}
		}
	}
	if shown < 500 {
		t.Errorf("only %d proofs are shown", shown)
	}
}

// change returns a proof with a node changed, removed, doubled or exchanged for
// another one.
func change(r *rand.Rand, a task, proof []api.Node) []api.Node {
	out := copiedNodes(proof)
	i := r.Intn(len(out))
	n := &out[i]
	switch r.Intn(9) {
	case 0:
		return slices.Delete(out, i, i+1)
	case 1:
		return slices.Insert(out, i, copiedNodes(proof[i:i+1])...)
	case 2:
		j := r.Intn(len(out))
		out[i], out[j] = out[j], out[i]
	case 3:
		n.Kind = between(r, 0, 4)
	case 4:
		n.Var += between(r, -1, 1)
	case 5:
		n.At += between(r, -2, 2)
	case 6:
		if len(n.Y) > 0 {
			n.Y = n.Y[1:]
		}
	case 7:
		if len(n.Y) > 0 {
			n.Y[r.Intn(len(n.Y))] = small(r, 3)
		}
	case 8:
		n.Y = nil
		for range a.p.Rows {
			n.Y = append(n.Y, small(r, 3))
		}
	}
	return out
}

// Errors, in their order.
func TestShowsErrors(t *testing.T) {
	odd := job("0", "0", "5", "2 = 3")
	fine, bad := nodes("split 0 1, empty 1, empty -1"), nodes("split 0 1, empty 01, empty -1")
	many := slices.Repeat(nodes("bound 0"), api.MaxNodes+1)
	worse := copiedNodes(many)
	worse[api.MaxNodes].Y[0] = "2/4"
	noBox := task{odd.p, nil, odd.high}
	for _, c := range []struct {
		a     task
		limit api.Num
		proof []api.Node
		want  api.Errno
	}{
		{odd, "", fine, api.OK}, {odd, "-0", fine, api.ErrForm}, {odd, "x", fine, api.ErrForm}, {odd, " ", fine, api.ErrForm}, {odd, "1/1", nil, api.ErrForm},
		{odd, "1/2", fine, api.ErrArg}, {odd, "-7/3", nil, api.ErrArg}, {odd, "", bad, api.ErrForm}, {odd, "1/2", bad, api.ErrForm},
		{noBox, "", fine, api.ErrArg}, {noBox, "", bad, api.ErrForm}, {noBox, "03", fine, api.ErrForm}, {noBox, "", many, api.ErrArg}, {noBox, "1/2", many, api.ErrArg},
		{odd, "", many, api.ErrLong}, {odd, "1/2", many, api.ErrArg}, {odd, "", worse, api.ErrForm}, {odd, "00", many, api.ErrForm}, {noBox, "", worse, api.ErrForm},
		{job("1/2", "0", "1"), "", many, api.ErrArg}, {job("1/2", "0", "1"), "", worse, api.ErrForm}, {task{}, "", nil, api.ErrArg}, {task{}, "", worse, api.ErrForm},
		// A Num counts where no proof has one, too, and where nothing is left to check.
		{odd, "", []api.Node{{Kind: api.Split, At: 1, Y: nums("x")}}, api.ErrForm}, {odd, "", []api.Node{{Kind: 9, Y: nums("1 2 +3")}}, api.ErrForm},
		{odd, "", append(copiedNodes(fine), api.Node{Y: []api.Num{""}}), api.ErrForm}, {odd, "", append(nodes("split 7 7"), bad...), api.ErrForm},
		{odd, api.Num(strings.Repeat("9", api.MaxDigits+1)), fine, api.ErrForm}, {odd, api.Num("-" + strings.Repeat("9", api.MaxDigits)), fine, api.OK},
	} {
		got, e := whole.Shows(c.a.p, c.a.low, c.a.high, c.limit, c.proof)
		if e != c.want || got != (e == api.OK) {
			t.Errorf("Shows(%v, %.20q, %d nodes) = %t, error %d, want %d", c.a, c.limit, len(c.proof), got, e, c.want)
		}
	}
}

// chain returns a proof of n splits for a variable without rows.
func chain(n int) []api.Node {
	out := []api.Node{}
	for i := range n {
		out = append(out, api.Node{Kind: api.Split, At: i}, api.Node{Kind: api.Bound})
	}
	return append(out, api.Node{Kind: api.Bound})
}

// The longest proofs, and one that is too long.
func TestProofLengths(t *testing.T) {
	a := job("1", "0", "1000000")
	most := chain((api.MaxNodes - 1) / 2)
	expectShows(t, a, "0", most, true)
	expectShows(t, a, "1", most, false)
	expectShows(t, a, "0", append(most, api.Node{Kind: api.Bound}), false)
	expectShows(t, a, "0", slices.Repeat([]api.Node{{Kind: api.Split, At: 1000}}, api.MaxNodes), false)
	if shown, e := whole.Shows(a.p, a.low, a.high, "0", chain(api.MaxNodes/2)); shown || e != api.ErrLong {
		t.Errorf("Shows = %t, error %d", shown, e)
	}
	// The same tree, but its first parts are the long ones.
	deep := slices.Repeat([]api.Node{{Kind: api.Split}}, (api.MaxNodes-1)/2)
	for i := range deep {
		deep[i].At = len(deep) - i
	}
	expectShows(t, a, "0", append(deep, slices.Repeat([]api.Node{{Kind: api.Bound}}, len(deep)+1)...), true)
}

// Multipliers with as many digits as Nums may have.
func TestLongMultipliers(t *testing.T) {
	nines, ones := strings.Repeat("9", api.MaxDigits), strings.Repeat("1", api.MaxDigits-1)
	odd := job("0", "0", "5", "2 = 3")
	expectShows(t, odd, "", nodes("split 0 1, empty "+nines+", empty -1/"+nines), true)
	expectShows(t, odd, "", nodes("split 0 1, empty -"+nines+", empty -1/"+nines), false)
	expectShows(t, odd, api.Num("-"+nines), nodes("bound 10/"+ones), true)
	// 5 - 1/99..9 is above 4, but not above 5.
	a := job("1", "0", "9", "1 >= 5")
	expectShows(t, a, "5", nodes("bound "+strings.Repeat("9", api.MaxDigits-1)+"8/"+nines), true)
	expectShows(t, a, "6", nodes("bound "+strings.Repeat("9", api.MaxDigits-1)+"8/"+nines), false)
	// 4 and a little more is above 4, but 4 is not.
	a = job("1", "0", "9", "1 >= 4")
	for range api.MaxLimits - 1 {
		a.p.Rows = append(a.p.Rows, api.Row{Coef: nums("0"), Kind: api.AtLeast, Right: "1/7"})
	}
	r := rand.New(rand.NewSource(12))
	y := slices.Repeat([]api.Num{"0"}, api.MaxLimits)
	y[0] = "1"
	expectShows(t, a, "5", []api.Node{{Kind: api.Bound, Y: y}}, false)
	for k := range y[1:] {
		y[k+1] = api.Num(strings.TrimPrefix(string(long(r, api.MaxDigits)), "-"))
	}
	expectShows(t, a, "5", []api.Node{{Kind: api.Bound, Y: y}}, true)
}
