package tile_test

import (
	"math/big"
	"math/rand"
	"slices"
	"strconv"
	"testing"

	"cracknel/api"
	"cracknel/tile"
)

// T1: At and Rank are inverse to each other, and tilings rise with their numbers,
// also where they are too many to be listed.
func TestInverse(t *testing.T) {
	r := rand.New(rand.NewSource(11))
	for range 40 {
		s := someSheet(r, between(r, 4, 6), between(r, 4, 6), r.Intn(4))
		cs := append(someCutters(r, s, between(r, 1, 3), 4), []api.Cutter{single(), domino()}[r.Intn(2)])
		text, e := tile.Count(s, cs)
		count, ok := new(big.Int).SetString(string(text), 10)
		if e != api.OK || !ok {
			t.Fatalf("Count(%v, %v) = %q, error %d", s, cs, text, e)
		}
		if count.Sign() == 0 {
			continue
		}
		ranks := []*big.Int{new(big.Int), new(big.Int).Sub(count, big.NewInt(1))}
		for range 6 {
			ranks = append(ranks, new(big.Int).Rand(r, count))
		}
		slices.SortFunc(ranks, (*big.Int).Cmp)
		var before tiling
		for i, rank := range ranks {
			l, e := tile.At(s, cs, api.Num(rank.String()))
			if e != api.OK || !isTiling(s, cs, l) {
				t.Fatalf("At(%v, %v, %s) = %v, error %d", s, cs, rank, l, e)
			}
			expectIs(t, s, cs, l, true)
			expectRank(t, s, cs, l, rank.String())
			if i > 0 && order(before, l) != rank.Cmp(ranks[i-1])*-1 {
				t.Errorf("%v, %v: %v is number %s, %v number %s", s, cs, before, ranks[i-1], l, rank)
			}
			before = l
		}
	}
}

// order compares tilings of a sheet: -1, 0 or 1.
func order(a, b tiling) int {
	for i := range a {
		if i == len(b) || a[i] == b[i] {
			continue
		}
		if a[i].Cutter < b[i].Cutter || a[i].Cutter == b[i].Cutter && a[i].Way < b[i].Way {
			return -1
		}
		return 1
	}
	return 0
}

// All tilings of a sheet, one after the other.
func TestRising(t *testing.T) {
	s, cs := sheet(4, 5, "1 1"), cutters(cutter("both", "0 0, 1 0, 2 0, 2 1"), single(), domino())
	count := number(s, cs)
	if !count.IsInt64() || count.Int64() < 10000 {
		t.Fatal(count)
	}
	var before tiling
	for i := range 3000 {
		l, e := tile.At(s, cs, api.Num(strconv.Itoa(i)))
		if e != api.OK || i > 0 && order(before, l) != -1 {
			t.Fatalf("%v and then %v, error %d", before, l, e)
		}
		expectRank(t, s, cs, l, strconv.Itoa(i))
		before = l
	}
}

// moved returns a sheet and cutters of which all points are moved: those of the
// sheet by one function, and those of cutters by another one.
func moved(s api.Sheet, cs []api.Cutter, w, h int, onSheet, onCutter func(point) point) (api.Sheet, []api.Cutter) {
	out := api.Sheet{W: w, H: h}
	for _, x := range s.Holes {
		out.Holes = append(out.Holes, onSheet(x))
	}
	var others []api.Cutter
	for _, c := range cs {
		other := api.Cutter{Turn: c.Turn, Flip: c.Flip}
		for _, x := range c.Cells {
			other.Cells = append(other.Cells, onCutter(x))
		}
		others = append(others, other)
	}
	return out, others
}

// T2: mirrored, or turned by a half or a quarter, there are as many tilings.
func TestSymmetry(t *testing.T) {
	r := rand.New(rand.NewSource(12))
	some, unlike := 0, 0
	for range 1200 {
		s := someSheet(r, between(r, 1, 6), between(r, 1, 6), r.Intn(4))
		cs := someCutters(r, s, between(r, 1, 3), between(r, 2, 4))
		want, e := tile.Count(s, cs)
		if e != api.OK {
			t.Fatal(e)
		}
		expect := func(s api.Sheet, cs []api.Cutter) { expectCount(t, s, cs, string(want)) }
		expect(moved(s, cs, s.W, s.H, func(x point) point { return at(s.W-1-x.X, x.Y) }, func(x point) point { return at(5-x.X, x.Y) }))
		expect(moved(s, cs, s.W, s.H, func(x point) point { return at(x.X, s.H-1-x.Y) }, func(x point) point { return at(x.X, 5-x.Y) }))
		expect(moved(s, cs, s.W, s.H, func(x point) point { return at(s.W-1-x.X, s.H-1-x.Y) }, func(x point) point { return at(5-x.X, 5-x.Y) }))
		quarter, turned := moved(s, cs, s.H, s.W, func(x point) point { return at(s.H-1-x.Y, x.X) }, func(x point) point { return at(5-x.Y, x.X) })
		if !slices.ContainsFunc(cs, func(c api.Cutter) bool { return c.Flip && !c.Turn }) {
			expect(quarter, turned)
		} else if n, _ := tile.Count(quarter, turned); n != want {
			unlike++
		}
		if want != "0" {
			some++
		}
	}
	if some < 400 || unlike == 0 {
		t.Errorf("%d sheets have tilings; %d have others when they are turned", some, unlike)
	}
}

// Why a quarter turn is not promised if a cutter has Flip without Turn.
func TestFlipWithoutTurn(t *testing.T) {
	snake := cutter("flip", "0 0, 1 0, 1 1, 2 1, 1 2")
	expectWays(t, snake, ways(snake)...)
	one, other := cutter("flip", "0 0, 0 1, 1 1"), cutter("flip", "1 0, 0 0, 0 1")
	expectCount(t, sheet(2, 2, "1 0"), cutters(one), "1")
	expectCount(t, sheet(2, 2, "1 1"), cutters(one), "0")
	expectCount(t, sheet(2, 2, "1 1"), cutters(other), "1")
}

// T3: all free cells can be covered exactly if there is a tiling.
func TestMostAndCount(t *testing.T) {
	r := rand.New(rand.NewSource(13))
	full, part := 0, 0
	for range 1500 {
		s := someSheet(r, between(r, 1, 6), between(r, 1, 6), r.Intn(3))
		cs := someCutters(r, s, between(r, 1, 3), 5)
		n, e := tile.Count(s, cs)
		m, f := tile.Most(s, cs)
		isFull := m == len(free(s))
		if e != api.OK || f != api.OK || isFull != (n != "0") || m > len(free(s)) {
			t.Errorf("%v, %v: Count %s, %d, Most %d, %d", s, cs, n, e, m, f)
		}
		if isFull {
			full++
		} else {
			part++
		}
	}
	if full < 300 || part < 300 {
		t.Errorf("%d sheets are covered, %d are not", full, part)
	}
}

// T5: dominoes cover sheets of an even number of cells, and leave such a sheet
// uncovered if two cells of one colour are holes.
func TestDominoPromise(t *testing.T) {
	for _, text := range []string{"0 0, 1 0", "0 0, 0 1", "5 5, 4 5"} {
		cs := cutters(cutter("turn", text))
		for w := 1; w <= 6; w++ {
			for h := 1; h <= 6; h++ {
				n, e := tile.Count(sheet(w, h, ""), cs)
				if e != api.OK || (n != "0") != (w*h%2 == 0) {
					t.Errorf("%d times %d: %s tilings, error %d", w, h, n, e)
				}
				expectNoneWithoutTwo(t, w, h, cs)
			}
		}
	}
}

// expectNoneWithoutTwo takes all pairs of cells of one colour out of a sheet. The
// weights that are 1 for this colour and -1 for the other one prove it.
func expectNoneWithoutTwo(t *testing.T, w, h int, cs []api.Cutter) {
	t.Helper()
	for i, a := range spots(w, h) {
		for _, b := range spots(w, h)[:i] {
			if w*h%2 == 0 && (a.X+a.Y)%2 == (b.X+b.Y)%2 {
				s := api.Sheet{W: w, H: h, Holes: points{a, b}}
				expectCount(t, s, cs, "0")
				expectBalance(t, s, cs, colours(w, h, func(x, y int) int { return chess(x, y) * chess(a.X, a.Y) }), true)
			}
		}
	}
}
