package tile_test

import (
	"math/rand"
	"slices"
	"testing"

	"cracknel/api"
	"cracknel/tile"
)

// balances follows the chapter's words.
func balances(s api.Sheet, cs []api.Cutter, weights []int) bool {
	set := setOf(free(s))
	weigh := func(cells points) int {
		sum := 0
		for _, x := range cells {
			sum += weights[x.Y*s.W+x.X]
		}
		return sum
	}
	for _, c := range cs {
		for _, way := range ways(c) {
			for x := range set {
				if weigh(covers(set, way, x)) < 0 {
					return false
				}
			}
		}
	}
	return weigh(free(s)) < 0
}

// colours returns a weight for each cell by its coordinates.
func colours(w, h int, weight func(x, y int) int) []int {
	var out []int
	for _, x := range spots(w, h) {
		out = append(out, weight(x.X, x.Y))
	}
	return out
}

func chess(x, y int) int { return 1 - 2*((x+y)%2) }

func TestBalanceByHand(t *testing.T) {
	board := colours(6, 6, chess)
	expectBalance(t, sheet(6, 6, "0 0, 5 5"), cutters(domino()), board, true) // two cells of weight 1 are gone
	expectBalance(t, sheet(6, 6, "0 0, 1 0"), cutters(domino()), board, false)
	expectBalance(t, sheet(6, 6, "1 0, 4 5"), cutters(domino()), board, false) // the sum is above 0
	expectBalance(t, sheet(6, 6, "1 0, 4 5"), cutters(domino()), colours(6, 6, func(x, y int) int { return -chess(x, y) }), true)
	expectBalance(t, sheet(6, 6, "0 0, 5 5"), cutters(domino(), single()), board, false)
	expectBalance(t, sheet(6, 6, "0 0, 5 5"), cutters(cutter("turn", "0 0, 2 0")), board, false)
	// The weights of holes do not count.
	expectBalance(t, sheet(2, 1, "0 0"), cutters(domino()), []int{1000, -1}, true)
	expectBalance(t, sheet(2, 1, "1 0"), cutters(domino()), []int{-1, 1000}, true)
	expectBalance(t, sheet(2, 1, "0 0"), cutters(domino()), []int{-1000, 0}, false)
	expectBalance(t, sheet(2, 1, "0 0"), cutters(domino()), []int{-1000, 1}, false)
	// One laid cutter that weighs too little is enough, in any orientation.
	expectBalance(t, sheet(1, 2, ""), cutters(cutter("plain", "0 0, 1 0")), []int{-1, 0}, true)
	expectBalance(t, sheet(1, 2, ""), cutters(domino()), []int{-1, 0}, false)
	expectBalance(t, sheet(1, 1, ""), cutters(domino()), []int{-1}, true)
	expectBalance(t, sheet(1, 1, ""), cutters(domino()), []int{0}, false)
	expectBalance(t, sheet(1, 1, ""), cutters(single()), []int{-1}, false)
	// No free cells weigh 0.
	expectBalance(t, sheet(1, 1, "0 0"), cutters(domino()), []int{-1000}, false)
	// The cell (x, y) has the number y·W + x.
	expectBalance(t, sheet(3, 2, "0 0, 1 0, 2 0, 0 1"), cutters(cutter("plain", "0 0, 2 0")), []int{1, 1, 1, 1, 1, -2}, true)
	expectBalance(t, sheet(3, 2, "0 0, 1 0, 2 0, 0 1"), cutters(cutter("plain", "0 0, 2 0")), []int{1, 1, -9, 1, 1, -1}, false)
	// A bar of four weighs 0 in each orientation, but 6 times 6 cells have a rest.
	bar := cutter("turn", "0 0, 1 0, 2 0, 3 0")
	expectBalance(t, sheet(6, 6, ""), cutters(bar), colours(6, 6, func(x, y int) int { return 1 - 2*((x/2+y/2)%2) }), false)
	expectBalance(t, sheet(6, 6, ""), cutters(bar), colours(6, 6, func(x, y int) int { return 2*((x/2+y/2)%2) - 1 }), true)
	expectCount(t, sheet(6, 6, ""), cutters(bar), "0")
}

// The limits of weights.
func TestExtremeWeights(t *testing.T) {
	least, greatest := slices.Repeat([]int{-1000}, 36), slices.Repeat([]int{1000}, 36)
	expectBalance(t, sheet(6, 6, ""), cutters(single()), least, false)
	expectBalance(t, sheet(6, 6, ""), cutters(single()), greatest, false)
	none := cutters(cutter("plain", "0 0, 0 5"))
	expectBalance(t, sheet(6, 5, ""), none, least[:30], true)
	expectBalance(t, sheet(6, 5, ""), none, greatest[:30], false)
	expectBalance(t, sheet(6, 6, ""), none, append(slices.Clone(least[:18]), greatest[:18]...), false)
	expectBalance(t, sheet(6, 6, "0 5"), none, append(slices.Clone(least[:18]), greatest[:18]...), true)
}

func TestBalance(t *testing.T) {
	r := rand.New(rand.NewSource(10))
	accepted := 0
	for range 20000 {
		w, h := between(r, 1, 4), between(r, 1, 4)
		s := someSheet(r, w, h, r.Intn(w*h))
		cs := someCutters(r, s, between(r, 1, 2), 4)
		weights := colours(w, h, func(_, _ int) int { return between(r, -2, 3) })
		want := balances(s, cs, weights)
		expectBalance(t, s, cs, weights, want)
		if !want {
			continue
		}
		accepted++
		// T4: there is no tiling.
		if n, e := tile.Count(s, cs); n != "0" || e != api.OK {
			t.Errorf("%v, %v, %v: %s tilings", s, cs, weights, n)
		}
	}
	if accepted < 300 {
		t.Errorf("%d weights were accepted", accepted)
	}
}
