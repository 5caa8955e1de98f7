package tile_test

import (
	"math/rand"
	"slices"
	"testing"

	"cracknel/api"
)

func TestMostByHand(t *testing.T) {
	expectMost(t, sheet(1, 1, ""), cutters(single()), 1)
	expectMost(t, sheet(1, 1, ""), cutters(domino()), 0)
	expectMost(t, sheet(6, 6, ""), cutters(single()), 36)
	expectMost(t, sheet(6, 6, ""), cutters(domino()), 36)
	expectMost(t, sheet(5, 5, ""), cutters(domino()), 24)
	expectMost(t, sheet(6, 6, "0 0, 5 5"), cutters(domino()), 32) // of one colour only 16 are left
	expectMost(t, sheet(6, 6, "0 0, 1 0"), cutters(domino()), 34)
	expectMost(t, sheet(6, 6, ""), cutters(cutter("turn", "0 0, 1 0, 2 0, 3 0")), 32)
	expectMost(t, sheet(6, 6, ""), cutters(cutter("plain", "0 0, 1 0, 2 0, 3 0")), 24)
	expectMost(t, sheet(6, 6, ""), cutters(cutter("both", "1 0, 0 1, 1 1, 2 1, 1 2")), 20)
	expectMost(t, sheet(3, 3, ""), cutters(cutter("plain", "0 0, 1 0, 0 1, 1 1")), 4)
	expectMost(t, sheet(5, 5, ""), cutters(cutter("plain", "0 0, 1 0, 0 1, 1 1")), 16)
	expectMost(t, sheet(5, 5, ""), cutters(cutter("plain", "0 0, 1 0, 0 1, 1 1"), cutter("plain", "0 0, 0 1, 0 2")), 24)
	expectMost(t, sheet(5, 5, ""), cutters(cutter("plain", "0 0, 1 0, 0 1, 1 1"), cutter("plain", "0 0, 1 0, 2 0, 3 0, 4 0")), 25)
	expectMost(t, sheet(6, 6, ""), cutters(cutter("both", "0 0, 5 5")), 4)
	expectMost(t, sheet(5, 6, ""), cutters(cutter("plain", "0 0, 5 5")), 0)
	expectMost(t, sheet(6, 6, ""), cutters(cutter("plain", "0 0, 1 0, 2 0, 3 0, 4 0, 5 0")), 36)
	expectMost(t, sheet(6, 6, "0 0, 1 1, 2 2, 3 3, 4 4, 5 5"), cutters(cutter("turn", "0 0, 1 0, 2 0, 3 0, 4 0, 5 0")), 0)
}

// Sheets that can be covered only in part, or not at all.
func TestMost(t *testing.T) {
	r := rand.New(rand.NewSource(7))
	part := 0
	for range 1200 {
		w, h := between(r, 1, 5), between(r, 1, 4)
		s := someSheet(r, w, h, r.Intn(w*h/2+1))
		cs := someCutters(r, s, between(r, 1, 3), between(r, 1, 6))
		want := most(s, cs)
		expectMost(t, s, cs, want)
		if want > 0 && want < len(free(s)) {
			part++
		}
	}
	if part < 250 {
		t.Errorf("%d sheets are covered in part", part)
	}
}

func TestMostOfGreatSheets(t *testing.T) {
	r := rand.New(rand.NewSource(8))
	for range 150 {
		s := someSheet(r, 6, between(r, 4, 6), r.Intn(5))
		cs := someCutters(r, s, between(r, 1, 3), 6)
		expectMost(t, s, cs, most(s, cs))
	}
	for range 40 {
		s := someSheet(r, 6, 6, r.Intn(3))
		cs := cutters(someCutter(r, between(r, 4, 6), 6, 6), someCutter(r, between(r, 4, 6), 6, 3), someCutter(r, between(r, 4, 6), 4, 4))
		expectMost(t, s, cs, most(s, cs))
	}
}

// More cutters cover no less, and a hole takes no more than a cutter's cells away.
func TestMostWithMore(t *testing.T) {
	r := rand.New(rand.NewSource(9))
	for range 150 {
		s := someSheet(r, between(r, 2, 6), between(r, 2, 6), 0)
		cs := someCutters(r, s, 2, 6)
		few := most(s, cs[:1])
		expectMost(t, s, cs[:1], few)
		expectMost(t, s, slices.Repeat(cs[:1], 8), few)
		if many := most(s, cs); many < few {
			t.Errorf("%v, %v: %d and then %d", s, cs, few, many)
		}
		expectMost(t, s, cs, most(s, cs))
		expectMost(t, s, append(cutters(single()), cs...), s.W*s.H)
	}
	expectMost(t, api.Sheet{W: 6, H: 6, Holes: spots(6, 6)[:35]}, cutters(single(), domino()), 1)
}
