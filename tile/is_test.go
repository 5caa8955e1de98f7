package tile_test

import (
	"math"
	"math/rand"
	"slices"
	"testing"

	"cracknel/api"
	"cracknel/tile"
)

// spoiled returns tilings that differ a little from one.
func spoiled(r *rand.Rand, l tiling) []tiling {
	out := []tiling{nil, slices.Concat(l, l)}
	for i := range l {
		out = append(out, slices.Delete(slices.Clone(l), i, i+1), slices.Insert(slices.Clone(l), i, l[i]))
		for _, change := range []func(x *laid){
			func(x *laid) { x.Cutter++ }, func(x *laid) { x.Cutter-- }, func(x *laid) { x.Way++ }, func(x *laid) { x.Way-- },
			func(x *laid) { x.At.X++ }, func(x *laid) { x.At.X-- }, func(x *laid) { x.At.Y++ }, func(x *laid) { x.At.Y-- },
			func(x *laid) { x.Cutter = 8 }, func(x *laid) { x.Way = 8 }, func(x *laid) { x.Cutter = math.MaxInt }, func(x *laid) { x.Cutter = math.MinInt },
			func(x *laid) { x.Way = math.MaxInt }, func(x *laid) { x.Way = math.MinInt }, func(x *laid) { x.At = at(math.MinInt, math.MaxInt) }, func(x *laid) { x.At = at(6, 6) },
		} {
			other := slices.Clone(l)
			change(&other[i])
			out = append(out, other)
		}
		if i > 0 {
			other := slices.Clone(l)
			other[i], other[i-1] = other[i-1], other[i]
			out = append(out, other)
		}
	}
	other := slices.Clone(l)
	r.Shuffle(len(other), func(i, j int) { other[i], other[j] = other[j], other[i] })
	return append(out, other)
}

// expectSpoiled compares what is a tiling with the chapter's words. What is none
// has no number.
func expectSpoiled(t *testing.T, r *rand.Rand, s api.Sheet, cs []api.Cutter, l tiling) int {
	t.Helper()
	wrong := 0
	for _, other := range spoiled(r, l) {
		want := isTiling(s, cs, other)
		expectIs(t, s, cs, other, want)
		n, e := tile.Rank(s, cs, other)
		if want != (e == api.OK) || !want && (n != "" || e != api.ErrForm) {
			t.Errorf("Rank(%v, %v, %v) = %q, error %d", s, cs, other, n, e)
		}
		if !want {
			wrong++
		}
	}
	return wrong
}

func TestIs(t *testing.T) {
	r := rand.New(rand.NewSource(6))
	wrong := 0
	for range 300 {
		w, h := between(r, 1, 6), between(r, 1, 6)
		s := someSheet(r, w, h, r.Intn(w*h/2+1))
		cs := someCutters(r, s, between(r, 1, 4), between(r, 1, 4))
		for _, l := range all(s, cs, 2) {
			expectIs(t, s, cs, l, true)
			wrong += expectSpoiled(t, r, s, cs, l)
		}
	}
	if wrong < 5000 {
		t.Errorf("%d were no tilings", wrong)
	}
}

func TestIsByHand(t *testing.T) {
	two := sheet(2, 2, "")
	flat := tiling{{At: at(0, 0)}, {At: at(0, 1)}}
	expectIs(t, two, cutters(domino()), flat, true)
	expectIs(t, two, cutters(domino()), tiling{flat[1], flat[0]}, false) // another order
	expectIs(t, two, cutters(domino()), flat[:1], false)                 // cells are left
	expectIs(t, two, cutters(domino()), nil, false)
	expectIs(t, two, cutters(domino()), tiling{{At: at(0, 0)}, {Way: 1, At: at(0, 0)}, {Way: 1, At: at(1, 0)}}, false) // cells are covered twice
	expectIs(t, two, cutters(domino()), tiling{{At: at(0, 0)}, {At: at(0, 0)}}, false)
	expectIs(t, two, cutters(domino()), tiling{{Way: 1, At: at(0, 0)}, {Way: 1, At: at(1, 0)}}, true)
	expectIs(t, two, cutters(domino()), tiling{{Way: 2, At: at(0, 0)}, {Way: 2, At: at(1, 0)}}, false) // turned twice it is as at first
	expectIs(t, two, cutters(domino()), make(tiling, 100000), false)
	expectIs(t, sheet(3, 2, "0 0, 2 1"), cutters(domino()), tiling{{At: at(1, 0)}, {At: at(0, 1)}}, true)
	expectIs(t, sheet(3, 2, "0 0, 2 1"), cutters(domino()), tiling{{At: at(0, 0)}, {At: at(0, 1)}}, false) // on a hole
	expectIs(t, sheet(3, 2, "0 0, 2 1"), cutters(domino()), tiling{{At: at(2, 0)}, {At: at(0, 1)}}, false) // over the edge
	// At is the first cell of what is covered, also if it is not the leftmost one.
	hook := cutters(cutter("turn", "1 0, 0 1, 1 1"), single())
	expectIs(t, two, hook, tiling{{Cutter: 1, At: at(0, 0)}, {At: at(1, 0)}}, true)
	expectIs(t, two, hook, tiling{{Cutter: 1, At: at(0, 0)}, {At: at(0, 0)}}, false)
}
