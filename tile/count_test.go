package tile_test

import (
	"math/big"
	"math/rand"
	"slices"
	"strconv"
	"testing"

	"cracknel/api"
)

// expectAll compares the number of tilings, each of them by its number, and each
// one's number, with the list of all of them.
func expectAll(t *testing.T, s api.Sheet, cs []api.Cutter, want []tiling) {
	t.Helper()
	expectCount(t, s, cs, strconv.Itoa(len(want)))
	for i, l := range want {
		expectAt(t, s, cs, strconv.Itoa(i), l)
		expectRank(t, s, cs, l, strconv.Itoa(i))
		expectIs(t, s, cs, l, true)
	}
}

// The examples of the chapter.
func TestExamples(t *testing.T) {
	expectCount(t, sheet(2, 3, ""), cutters(domino()), "3")
	expectAt(t, sheet(2, 3, ""), cutters(domino()), "0", tiling{{At: at(0, 0)}, {At: at(0, 1)}, {At: at(0, 2)}})
	expectCount(t, sheet(3, 3, "0 0"), cutters(domino()), "4")
	holes := sheet(2, 2, "0 0, 1 1")
	expectCount(t, holes, cutters(domino()), "0")
	expectMost(t, holes, cutters(domino()), 0)
	expectBalance(t, holes, cutters(domino()), []int{0, -1, -1, 0}, true)
}

// What is known of dominoes: Kasteleyn's numbers.
func TestDominoes(t *testing.T) {
	known := [][]int{{0, 1, 0, 1, 0, 1}, {1, 2, 3, 5, 8, 13}, {0, 3, 0, 11, 0, 41}, {1, 5, 11, 36, 95, 281}, {0, 8, 0, 95, 0, 1183}, {1, 13, 41, 281, 1183, 6728}}
	for i, row := range known {
		for j, want := range row {
			expectCount(t, sheet(i+1, j+1, ""), cutters(domino()), strconv.Itoa(want))
		}
	}
}

// What is known of other cutters.
func TestKnownNumbers(t *testing.T) {
	// Singles and dominoes: the matchings of a grid.
	for i, want := range []string{"1", "7", "131", "10012", "2810694", "2989126727"} {
		expectCount(t, sheet(i+1, i+1, ""), cutters(single(), domino()), want)
		expectCount(t, sheet(i+1, i+1, ""), cutters(domino(), single()), want)
	}
	corner := cutter("turn", "0 0, 1 0, 0 1")
	expectCount(t, sheet(2, 3, ""), cutters(corner), "2")
	expectCount(t, sheet(6, 2, ""), cutters(corner), "4")
	expectCount(t, sheet(6, 6, ""), cutters(corner), "162")
	expectCount(t, sheet(4, 4, "3 2"), cutters(corner), "1")
	bar := cutter("turn", "0 0, 1 0, 2 0")
	expectCount(t, sheet(6, 6, ""), cutters(bar), "64")
	tee := cutter("turn", "0 0, 1 0, 2 0, 1 1")
	expectCount(t, sheet(4, 4, ""), cutters(tee), "2")
	expectCount(t, sheet(6, 6, ""), cutters(tee), "0")
	expectCount(t, sheet(6, 6, ""), cutters(cutter("turn", "0 0, 1 0, 2 0, 3 0")), "0")
	expectCount(t, sheet(6, 6, ""), cutters(cutter("plain", "0 0, 1 0, 2 0, 3 0, 4 0, 5 0")), "1")
	expectCount(t, sheet(6, 6, ""), cutters(cutter("turn", "0 0, 1 0, 2 0, 3 0, 4 0, 5 0")), "2")
	// Each column is cut in 2^5 ways.
	expectCount(t, sheet(6, 6, ""), bars(), "1073741824")
	expectCount(t, sheet(6, 6, "0 1, 1 1, 2 1, 3 1, 4 1, 5 1"), bars(), "262144")
}

// bars returns the upright bars of one to six cells.
func bars() []api.Cutter {
	var out []api.Cutter
	for n := range 6 {
		out = append(out, api.Cutter{Cells: spots(1, n+1)})
	}
	return out
}

// The greatest number of all, and others that no word holds.
func TestGreatNumbers(t *testing.T) {
	singles := slices.Repeat(cutters(single()), 8)
	expectCount(t, sheet(6, 6, ""), singles, new(big.Int).Exp(big.NewInt(8), big.NewInt(36), nil).String())
	for n := 1; n <= 6; n++ {
		for m := 1; m <= 8; m++ {
			want := new(big.Int).Exp(big.NewInt(int64(m)), big.NewInt(int64(6*n)), nil)
			expectCount(t, sheet(6, n, ""), singles[:m], want.String())
		}
	}
	last := new(big.Int).Sub(new(big.Int).Exp(big.NewInt(8), big.NewInt(36), nil), big.NewInt(1))
	var want tiling
	for _, x := range spots(6, 6) {
		want = append(want, laid{Cutter: 7, At: x})
	}
	expectAt(t, sheet(6, 6, ""), singles, last.String(), want)
	expectRank(t, sheet(6, 6, ""), singles, want, last.String())
	// 6728 tilings, each of 18 dominoes of any of 8 cutters.
	expectCount(t, sheet(6, 6, ""), slices.Repeat(cutters(domino()), 8), new(big.Int).Mul(big.NewInt(6728), new(big.Int).Exp(big.NewInt(8), big.NewInt(18), nil)).String())
	for _, exponent := range []int64{30, 60, 62, 63, 64, 90} {
		two := slices.Repeat(cutters(single()), 8)
		power := new(big.Int).Exp(big.NewInt(2), big.NewInt(exponent), nil)
		for _, by := range []int64{-1, 0, 1} {
			rank := new(big.Int).Add(power, big.NewInt(by))
			expectAt(t, sheet(6, 6, ""), two, rank.String(), octal(rank))
			expectRank(t, sheet(6, 6, ""), two, octal(rank), rank.String())
		}
	}
}

// octal returns the tiling of a number with eight single cutters: its digits.
func octal(n *big.Int) tiling {
	text := n.Text(8)
	var out tiling
	for i, x := range spots(6, 6) {
		digit := 0
		if j := i - (36 - len(text)); j >= 0 {
			digit = int(text[j] - '0')
		}
		out = append(out, laid{Cutter: digit, At: x})
	}
	return out
}

// A sheet without free cells has one tiling, which is empty.
func TestNoFreeCells(t *testing.T) {
	for _, s := range []api.Sheet{sheet(1, 1, "0 0"), {W: 6, H: 6, Holes: spots(6, 6)}, {W: 2, H: 5, Holes: spots(2, 5)}} {
		expectAll(t, s, cutters(single()), []tiling{nil})
		expectAll(t, s, cutters(cutter("both", "0 0, 5 5, 2 3")), []tiling{{}})
		expectMost(t, s, cutters(domino()), 0)
		expectIs(t, s, cutters(single()), tiling{{At: at(0, 0)}}, false)
	}
	expectAll(t, sheet(1, 1, ""), cutters(single()), []tiling{{{At: at(0, 0)}}})
	expectAll(t, sheet(1, 1, ""), cutters(domino()), nil)
	expectIs(t, sheet(1, 1, ""), cutters(domino()), nil, false)
}

// Cutters that are the same, or have an orientation in common, differ by their
// numbers.
func TestSameCutters(t *testing.T) {
	expectAll(t, sheet(2, 1, ""), cutters(domino(), domino()), []tiling{{{Cutter: 0}}, {{Cutter: 1}}})
	expectAll(t, sheet(1, 2, ""), cutters(domino(), cutter("plain", "0 0, 0 1"), domino()), []tiling{{{Cutter: 0, Way: 1}}, {{Cutter: 1}}, {{Cutter: 2, Way: 1}}})
	expectAll(t, sheet(1, 1, ""), slices.Repeat(cutters(single()), 8)[:3], []tiling{{{Cutter: 0}}, {{Cutter: 1}}, {{Cutter: 2}}})
	expectAll(t, sheet(4, 4, ""), cutters(domino()), all(sheet(4, 4, ""), cutters(domino()), 100))
}

// Cells that are not connected, in sheets with holes.
func TestScatteredCutters(t *testing.T) {
	apart := cutter("plain", "0 0, 2 0")
	expectAll(t, sheet(4, 1, ""), cutters(apart), []tiling{{{At: at(0, 0)}, {At: at(1, 0)}}})
	expectAll(t, sheet(3, 1, "1 0"), cutters(apart), []tiling{{{At: at(0, 0)}}})
	expectAll(t, sheet(3, 1, ""), cutters(apart), nil)
	expectAll(t, sheet(3, 1, ""), cutters(apart, single()), []tiling{{{At: at(0, 0)}, {Cutter: 1, At: at(1, 0)}}, {{Cutter: 1, At: at(0, 0)}, {Cutter: 1, At: at(1, 0)}, {Cutter: 1, At: at(2, 0)}}})
	corners := cutter("both", "0 0, 5 0, 0 5, 5 5")
	expectCount(t, sheet(6, 6, ""), cutters(corners, single()), "2")
	inner := slices.DeleteFunc(spots(6, 6), func(x point) bool { return (x.X == 0 || x.X == 5) && (x.Y == 0 || x.Y == 5) })
	expectAll(t, api.Sheet{W: 6, H: 6, Holes: inner}, cutters(corners), []tiling{{{At: at(0, 0)}}})
}

// Small sheets, with all their tilings.
func TestAllTilings(t *testing.T) {
	r := rand.New(rand.NewSource(3))
	several, none := 0, 0
	for range 1500 {
		w, h := between(r, 1, 5), between(r, 1, 5)
		s := someSheet(r, w, h, r.Intn(w*h/2+1))
		cs := someCutters(r, s, between(r, 1, 4), between(r, 1, 4))
		want := all(s, cs, 150)
		if len(want) == 150 {
			continue
		}
		expectAll(t, s, cs, want)
		several += min(1, len(want)/5)
		none += 1 - min(1, len(want))
	}
	if several < 200 || none < 200 {
		t.Errorf("%d sheets with five tilings or more, %d without any", several, none)
	}
}

// Greater sheets, by counting from the other end.
func TestCounts(t *testing.T) {
	r := rand.New(rand.NewSource(4))
	some := 0
	for range 250 {
		s := someSheet(r, between(r, 3, 6), between(r, 3, 6), r.Intn(4))
		cs := someCutters(r, s, between(r, 1, 5), between(r, 1, 6))
		want := number(s, cs)
		expectCount(t, s, cs, want.String())
		some += want.Sign()
	}
	if some < 80 {
		t.Errorf("%d sheets have tilings", some)
	}
	// Cutters as great as the sheet.
	for range 60 {
		s := someSheet(r, 6, between(r, 4, 6), between(r, 6, 9))
		cs := cutters(single(), someCutter(r, between(r, 2, 6), 6, 6), someCutter(r, between(r, 2, 3), 6, 2), someCutter(r, between(r, 4, 6), 4, 4))
		expectCount(t, s, cs, number(s, cs).String())
	}
}

// Eight cutters of all sizes on the greatest sheet.
func TestManyCutters(t *testing.T) {
	r := rand.New(rand.NewSource(5))
	for range 6 {
		var cs []api.Cutter
		for size := range 8 {
			cs = append(cs, connected(r, size%6+1))
		}
		s := someSheet(r, 6, 6, r.Intn(3))
		expectCount(t, s, cs, number(s, cs).String())
	}
}

// connected returns a cutter that grows cell by cell.
func connected(r *rand.Rand, size int) api.Cutter {
	out := api.Cutter{Cells: points{at(r.Intn(6), r.Intn(6))}, Turn: true, Flip: true}
	for len(out.Cells) < size {
		x := out.Cells[r.Intn(len(out.Cells))]
		step := points{at(1, 0), at(-1, 0), at(0, 1), at(0, -1)}[r.Intn(4)]
		next := at(x.X+step.X, x.Y+step.Y)
		if slices.Contains(spots(6, 6), next) && !slices.Contains(out.Cells, next) {
			out.Cells = append(out.Cells, next)
		}
	}
	return out
}

// Cutters of which the cells are rows apart: row by row, what may be left would
// be millions of sets.
func TestTallCutters(t *testing.T) {
	var cs []api.Cutter
	for _, text := range []string{"0 0", "0 0, 0 3", "0 0, 0 2, 0 5", "0 0, 0 1, 0 4", "0 0, 0 2", "0 0, 0 4", "0 0, 0 2, 0 3", "0 0, 0 5"} {
		cs = append(cs, cutter("plain", text))
	}
	column := number(sheet(1, 6, ""), cs)
	expectCount(t, sheet(6, 6, ""), cs, new(big.Int).Exp(column, big.NewInt(6), nil).String())
	last := new(big.Int).Sub(new(big.Int).Exp(column, big.NewInt(6), nil), big.NewInt(1))
	var want tiling
	for _, x := range all(sheet(1, 6, ""), cs, 1000)[column.Int64()-1] {
		for i := range 6 {
			want = append(want, laid{Cutter: x.Cutter, Way: x.Way, At: at(i, x.At.Y)})
		}
	}
	expectRank(t, sheet(6, 6, ""), cs, want, last.String())
	expectAt(t, sheet(6, 6, ""), cs, last.String(), want)
}
