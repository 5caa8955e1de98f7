package tile_test

import (
	"math"
	"math/rand"
	"reflect"
	"slices"
	"strings"
	"testing"

	"cracknel/api"
	"cracknel/tile"
)

// A call of a function with a sheet and cutters, and what else it needs; it
// returns its result beside the error.
type call struct {
	name string
	do   func(s api.Sheet, cs []api.Cutter) (any, api.Errno)
}

// calls returns calls of which the other arguments are good for sheets with two
// cells and one domino, and for others malformed or too many.
func calls() []call {
	return []call{
		{"Count", func(s api.Sheet, cs []api.Cutter) (any, api.Errno) { n, e := tile.Count(s, cs); return n, e }},
		{"At", func(s api.Sheet, cs []api.Cutter) (any, api.Errno) { l, e := tile.At(s, cs, "0"); return l, e }},
		{"At of a fraction", func(s api.Sheet, cs []api.Cutter) (any, api.Errno) { l, e := tile.At(s, cs, "1/2"); return l, e }},
		{"At of a great number", func(s api.Sheet, cs []api.Cutter) (any, api.Errno) {
			l, e := tile.At(s, cs, "1000000000000000000000000000000000000000")
			return l, e
		}},
		{"Rank", func(s api.Sheet, cs []api.Cutter) (any, api.Errno) {
			n, e := tile.Rank(s, cs, tiling{{}})
			return n, e
		}},
		{"Rank of none", func(s api.Sheet, cs []api.Cutter) (any, api.Errno) {
			n, e := tile.Rank(s, cs, tiling{{Cutter: -1}})
			return n, e
		}},
		{"Is", func(s api.Sheet, cs []api.Cutter) (any, api.Errno) {
			is, e := tile.Is(s, cs, tiling{{}})
			return is, e
		}},
		{"Most", func(s api.Sheet, cs []api.Cutter) (any, api.Errno) { n, e := tile.Most(s, cs); return n, e }},
		{"Balance", func(s api.Sheet, cs []api.Cutter) (any, api.Errno) {
			is, e := tile.Balance(s, cs, []int{-1, -1})
			return is, e
		}},
	}
}

// expectError checks R3: a result beside an error is zero; a slice may be empty.
func expectError(t *testing.T, name string, result any, got, want api.Errno) {
	t.Helper()
	if got != want {
		t.Errorf("%s: error %d, want %d", name, got, want)
	}
	if v := reflect.ValueOf(result); got != api.OK && !v.IsZero() && (v.Kind() != reflect.Slice || v.Len() > 0) {
		t.Errorf("%s: %v beside an error", name, result)
	}
}

func expectErrArg(t *testing.T, s api.Sheet, cs []api.Cutter) {
	t.Helper()
	for _, c := range calls() {
		result, e := c.do(s, cs)
		expectError(t, c.name, result, e, api.ErrArg)
	}
}

// odd returns numbers that are no lengths and no coordinates.
func odd() []int {
	return []int{-1, 6, 7, 64, 100, -6, math.MaxInt, math.MinInt, math.MinInt + 1, math.MaxInt32, 1 << 32, 1 << 62}
}

// ErrArg comes before all that is wrong beside it.
func TestInvalidSheets(t *testing.T) {
	for _, n := range append(odd(), 0) {
		if n != 6 {
			expectErrArg(t, api.Sheet{W: n, H: 1}, cutters(domino()))
			expectErrArg(t, api.Sheet{W: 2, H: n}, cutters(domino()))
			expectErrArg(t, api.Sheet{W: n, H: n}, cutters(domino()))
		}
		if n != 0 {
			expectErrArg(t, api.Sheet{W: 6, H: 6, Holes: points{at(n, 0)}}, cutters(domino()))
			expectErrArg(t, api.Sheet{W: 6, H: 6, Holes: points{at(0, n)}}, cutters(domino()))
			expectErrArg(t, api.Sheet{W: 6, H: 6, Holes: points{at(1, 1), at(n, n)}}, cutters(domino()))
		}
	}
	for _, s := range []api.Sheet{
		{}, {W: 2}, {H: 2}, sheet(2, 1, "2 0"), sheet(2, 1, "0 1"), sheet(1, 2, "1 0"), sheet(2, 3, "2 2"), sheet(3, 2, "2 2"), sheet(2, 1, "0 0, 0 0"), sheet(2, 1, "0 0, 1 0, 0 0"),
		sheet(6, 6, "1 2, 2 1, 1 2"), {W: 6, H: 6, Holes: append(spots(6, 6), at(0, 0))}, {W: 6, H: 6, Holes: make(points, 100000)}, {W: 5, H: 5, Holes: spots(6, 6)}, {W: 7, H: 7, Holes: spots(7, 7)},
	} {
		expectErrArg(t, s, cutters(domino()))
	}
}

func invalidCutters() []api.Cutter {
	out := []api.Cutter{{}, {Turn: true}, {Flip: true, Turn: true}, {Cells: points{}}, {Cells: spots(6, 6)}, {Cells: make(points, 100000)}}
	for _, text := range []string{"0 0, 0 0", "0 0, 1 0, 0 0", "5 5, 4 4, 3 3, 2 2, 1 1, 5 5", "0 0, 1 0, 2 0, 3 0, 4 0, 5 0, 0 1", "0 0, 0 1, 0 2, 0 3, 0 4, 0 5, 0 6", "0 0, 6 0", "0 6"} {
		for _, kind := range []string{"plain", "turn", "flip", "both"} {
			out = append(out, cutter(kind, text))
		}
	}
	for _, n := range odd() {
		out = append(out, api.Cutter{Cells: points{at(n, 0)}}, api.Cutter{Cells: points{at(0, 0), at(0, n)}, Turn: true}, api.Cutter{Cells: points{at(n, n), at(1, 0)}, Flip: true})
	}
	return out
}

func TestInvalidCutters(t *testing.T) {
	for _, c := range invalidCutters() {
		w, e := tile.Ways(c)
		expectError(t, "Ways", w, e, api.ErrArg)
		expectErrArg(t, sheet(2, 1, ""), cutters(c))
		expectErrArg(t, sheet(2, 1, ""), cutters(domino(), c))
		expectErrArg(t, sheet(2, 1, ""), append(slices.Repeat(cutters(domino()), 7), c))
		expectErrArg(t, sheet(1, 1, "0 0"), cutters(c))
		expectErrArg(t, sheet(0, 1, ""), cutters(c))
	}
	expectErrArg(t, sheet(2, 1, ""), nil)
	expectErrArg(t, sheet(2, 1, ""), cutters())
	expectErrArg(t, sheet(2, 1, ""), slices.Repeat(cutters(domino()), 9))
	expectErrArg(t, sheet(2, 1, ""), make([]api.Cutter, 100000))
	expectErrArg(t, sheet(6, 6, ""), slices.Repeat(cutters(single()), 9))
}

// The limits that the document names are allowed.
func TestLimits(t *testing.T) {
	expectCount(t, sheet(2, 1, ""), slices.Repeat(cutters(domino()), 8), "8")
	expectCount(t, sheet(1, 1, ""), slices.Repeat(cutters(single()), 8), "8")
	expectCount(t, sheet(6, 1, ""), cutters(cutter("plain", "0 5, 1 5, 2 5, 3 5, 4 5, 5 5")), "1")
	expectCount(t, sheet(1, 6, ""), cutters(cutter("plain", "5 0, 5 1, 5 2, 5 3, 5 4, 5 5")), "1")
	expectCount(t, sheet(3, 2, ""), slices.Repeat(cutters(cutter("both", "3 4, 4 4, 5 4, 3 5, 4 5, 5 5")), 8), "8")
	for _, x := range []point{at(0, 0), at(5, 0), at(0, 5), at(5, 5)} {
		expectCount(t, api.Sheet{W: 6, H: 6, Holes: points{x}}, cutters(api.Cutter{Cells: points{x}}), "1")
	}
	for _, size := range []int{1, 6} {
		w, e := tile.Ways(api.Cutter{Cells: spots(6, 6)[:size]})
		if e != api.OK || len(w) != 1 || len(w[0]) != size {
			t.Errorf("%v, error %d", w, e)
		}
	}
}

func expectAtError(t *testing.T, s api.Sheet, cs []api.Cutter, rank string, want api.Errno) {
	t.Helper()
	l, e := tile.At(s, cs, api.Num(rank))
	expectError(t, "At of "+rank, l, e, want)
}

// A rank that is malformed is reported before one that is too great, and both
// after a sheet that is not valid.
func TestErrorsOfAt(t *testing.T) {
	s, cs := sheet(2, 3, ""), cutters(domino())
	digits := strings.Repeat("9", api.MaxDigits)
	none := sheet(1, 1, "")
	for _, rank := range []string{"", "-", "+1", "01", "00", "-0", "0/1", "2/1", "2/2", "4/2", "1/0", "1.0", "1e0", " 1", "1 ", "x", "0x1", "１", "1/2", "-1/2", "5/3", "1/-2", "1/" + digits, digits + "9", "-" + digits + "9", "1\n", "\x00"} {
		expectAtError(t, s, cs, rank, api.ErrForm)
		expectAtError(t, none, cs, rank, api.ErrForm)
		expectAtError(t, sheet(0, 1, ""), cs, rank, api.ErrArg)
		expectAtError(t, s, nil, rank, api.ErrArg)
	}
	for _, rank := range []string{"-1", "3", "4", "-3", "9223372036854775807", "9223372036854775808", "18446744073709551616", "18446744073709551617", "1152921504606846976", "-18446744073709551615", digits, "-" + digits} {
		expectAtError(t, s, cs, rank, api.ErrNone)
		expectAtError(t, none, cs, rank, api.ErrNone)
		expectAtError(t, sheet(2, 1, "2 0"), cs, rank, api.ErrArg)
	}
	expectAtError(t, none, cs, "0", api.ErrNone)
	expectAtError(t, s, cs, "0", api.OK)
	expectAtError(t, s, cs, "2", api.OK)
	expectAtError(t, sheet(1, 1, "0 0"), cs, "0", api.OK)
	expectAtError(t, sheet(1, 1, "0 0"), cs, "1", api.ErrNone)
	count := "324518553658426726783156020576256" // 8^36
	expectAtError(t, sheet(6, 6, ""), slices.Repeat(cutters(single()), 8), count, api.ErrNone)
	expectAtError(t, sheet(6, 6, ""), slices.Repeat(cutters(single()), 8), "324518553658426726783156020576255", api.OK)
}

func TestErrorsOfRank(t *testing.T) {
	s, cs := sheet(2, 1, ""), cutters(domino())
	expectRank(t, s, cs, tiling{{}}, "0")
	for _, l := range []tiling{nil, {{}, {}}, {{Cutter: 1}}, {{Way: 1}}, {{Way: -1}}, {{At: at(1, 0)}}, make(tiling, 100000), {{Cutter: math.MinInt, Way: math.MaxInt, At: at(math.MaxInt, math.MinInt)}}} {
		n, e := tile.Rank(s, cs, l)
		expectError(t, "Rank", n, e, api.ErrForm)
		expectIs(t, s, cs, l, false)
		n, e = tile.Rank(sheet(2, 7, ""), cs, l)
		expectError(t, "Rank", n, e, api.ErrArg)
		n, e = tile.Rank(s, cutters(domino(), api.Cutter{}), l)
		expectError(t, "Rank", n, e, api.ErrArg)
	}
}

func TestErrorsOfBalance(t *testing.T) {
	s, cs := sheet(2, 3, "0 0"), cutters(domino())
	for _, count := range []int{0, 1, 4, 5, 7, 8, 36, 100000} {
		is, e := tile.Balance(s, cs, slices.Repeat([]int{-1}, count))
		expectError(t, "Balance", is, e, api.ErrArg)
	}
	for i := range 6 {
		for _, w := range []int{-1001, 1001, math.MaxInt, math.MinInt, 1 << 32} {
			// The weight of a hole has the same limits.
			weights := make([]int, 6)
			weights[i] = w
			is, e := tile.Balance(s, cs, weights)
			expectError(t, "Balance", is, e, api.ErrArg)
		}
		for _, w := range []int{-1000, 1000} {
			weights := make([]int, 6)
			weights[i] = w
			is, e := tile.Balance(s, cs, weights)
			expectError(t, "Balance", is, e, api.OK)
		}
	}
}

// R1: whatever the arguments are, there is a result.
func TestOddArguments(t *testing.T) {
	r := rand.New(rand.NewSource(14))
	number := func() int {
		if r.Intn(4) == 0 {
			return odd()[r.Intn(len(odd()))]
		}
		return r.Intn(7)
	}
	some := func() points {
		out := make(points, r.Intn(4))
		for i := range out {
			out[i] = at(number(), number())
		}
		return out
	}
	for range 20000 {
		s := api.Sheet{W: number(), H: number(), Holes: some()}
		cs := make([]api.Cutter, r.Intn(3))
		for i := range cs {
			cs[i] = api.Cutter{Cells: some(), Turn: r.Intn(2) == 0, Flip: r.Intn(2) == 0}
			tile.Ways(cs[i])
		}
		for _, c := range calls() {
			c.do(s, cs)
		}
		l := make(tiling, r.Intn(3))
		for i := range l {
			l[i] = laid{Cutter: number(), Way: number(), At: at(number(), number())}
		}
		tile.Is(s, cs, l)
		tile.Rank(s, cs, l)
	}
}

// R4: nil and empty slices are the same.
func TestNilAndEmpty(t *testing.T) {
	for _, holes := range []points{nil, {}} {
		s := api.Sheet{W: 2, H: 3, Holes: holes}
		expectCount(t, s, cutters(domino()), "3")
		expectMost(t, s, cutters(domino()), 6)
	}
	for _, l := range []tiling{nil, {}} {
		expectIs(t, sheet(1, 1, "0 0"), cutters(domino()), l, true)
		expectRank(t, sheet(1, 1, "0 0"), cutters(domino()), l, "0")
		expectIs(t, sheet(1, 1, ""), cutters(domino()), l, false)
	}
	for _, c := range []api.Cutter{{Cells: nil}, {Cells: points{}}} {
		w, e := tile.Ways(c)
		expectError(t, "Ways", w, e, api.ErrArg)
	}
}

// R5: arguments are neither changed nor retained, and results are new memory; R6:
// the same arguments have the same results, whatever is behind the elements.
func TestMemory(t *testing.T) {
	r := rand.New(rand.NewSource(15))
	roomy := func(l points) points { return append(slices.Clone(l), at(-99, 99))[:len(l)] }
	for range 200 {
		s := someSheet(r, between(r, 1, 4), between(r, 1, 4), 2)
		cs := append(someCutters(r, s, 2, 4), single())
		given, others := api.Sheet{W: s.W, H: s.H, Holes: roomy(s.Holes)}, make([]api.Cutter, len(cs), len(cs)+1)
		for i, c := range cs {
			others[i] = api.Cutter{Cells: roomy(c.Cells), Turn: c.Turn, Flip: c.Flip}
		}
		for _, c := range calls() {
			want, e := c.do(s, cs)
			got, f := c.do(given, others)
			if e != f || !reflect.DeepEqual(got, want) {
				t.Fatalf("%s(%v, %v): %v, %d, and then %v, %d", c.name, s, cs, want, e, got, f)
			}
			if l, ok := got.(tiling); ok {
				for i := range l[:cap(l)] {
					l[:cap(l)][i] = laid{Cutter: -77}
				}
			}
			if again, _ := c.do(given, others); !reflect.DeepEqual(again, want) {
				t.Fatalf("%s(%v, %v): %v, and then %v", c.name, s, cs, want, again)
			}
		}
		if !reflect.DeepEqual(given, s) || !reflect.DeepEqual(others, cs) || given.Holes[:len(s.Holes)+1][len(s.Holes)] != at(-99, 99) {
			t.Fatalf("%v, %v become %v, %v", s, cs, given, others)
		}
		for _, c := range others {
			expectOwnWays(t, c)
		}
	}
	l, weights := tiling{{}, {Cutter: -5}}[:1], []int{-1, -1, 5}[:2]
	tile.Rank(sheet(2, 1, ""), cutters(domino()), l)
	tile.Is(sheet(2, 1, ""), cutters(domino()), l)
	tile.Balance(sheet(2, 1, ""), cutters(domino()), weights)
	if !slices.Equal(l[:2], tiling{{}, {Cutter: -5}}) || !slices.Equal(weights[:3], []int{-1, -1, 5}) {
		t.Errorf("%v, %v", l[:2], weights[:3])
	}
}

// expectOwnWays overwrites one orientation after the other, with all the memory
// that it has.
func expectOwnWays(t *testing.T, c api.Cutter) {
	t.Helper()
	cells, want := slices.Clone(c.Cells), ways(c)
	got, _ := tile.Ways(c)
	for i := range got {
		if !slices.Equal(got[i], want[i]) {
			t.Fatalf("Ways(%v): orientation %d is now %v", c, i, got[i])
		}
		for j := range got[i][:cap(got[i])] {
			got[i][:cap(got[i])][j] = at(-77, -77)
		}
	}
	if again, _ := tile.Ways(c); !reflect.DeepEqual(again, want) || !slices.Equal(cells, c.Cells) {
		t.Fatalf("Ways(%v) = %v, want %v", c, again, want)
	}
}
