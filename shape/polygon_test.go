package shape_test

import (
	"math/rand"
	"slices"
	"testing"

	"cracknel/api"
	"cracknel/shape"
)

func expectArea2(t *testing.T, p points, want int) {
	t.Helper()
	if got, e := shape.Area2(p); got != want || e != api.OK {
		t.Errorf("Area2(%v) = %d, error %d, want %d", p, got, e, want)
	}
}

func TestArea2(t *testing.T) {
	for _, c := range []struct {
		text string
		want int
	}{
		{"0 0, 2 0, 2 2, 0 2", 8}, {"0 0, 0 2, 2 2, 2 0", -8}, {"1 1, 2 1, 1 2", 1}, {"5 5, 5 5, 5 5", 0}, {"0 0, 1 1, 2 2", 0}, {"-3 -3, 4 4, 0 0, 9 9", 0},
		// Polygons that are not simple: a bow, one that goes round twice, a pentagram.
		{"0 0, 2 2, 2 0, 0 2", 0}, {"0 0, 3 3, 3 0, 0 1", -6}, {"0 0, 1 0, 0 1, 0 0, 1 0, 0 1", 2}, {"0 0, 4 3, -1 3, 3 0, 1 5", 21},
		{"-10000 -10000, 10000 -10000, 10000 10000, -10000 10000", 800000000}, {"-10000 -10000, 10000 10000, 10000 9999", -20000},
	} {
		expectArea2(t, poly(c.text), c.want)
	}
	// Beyond 32 bits: sixteen times round the greatest square, in half of the steps.
	great := poly("-10000 -10000, 10000 -10000, 10000 10000, -10000 10000")
	expectArea2(t, slices.Repeat(great, 8), 6400000000)
	expectArea2(t, slices.Repeat(reversed(great), 8), -6400000000)
	r := rand.New(rand.NewSource(40))
	for range 3000 {
		p := somePoints(r, between(r, 3, 32), []int{2, 50, 10000}[r.Intn(3)])
		expectArea2(t, p, area(p))
		expectArea2(t, reversed(p), -area(p))
		expectArea2(t, rotated(p, r.Intn(len(p))), area(p))
	}
}

func expectIsSimple(t *testing.T, p points, want bool) {
	t.Helper()
	if got, e := shape.Simple(p); got != want || e != api.OK {
		t.Errorf("Simple(%v) = %t, error %d, want %t", p, got, e, want)
	}
}

func TestSimple(t *testing.T) {
	for _, text := range []string{
		// Edges of the length 0.
		"0 0, 0 0, 0 0", "0 0, 0 0, 1 0", "0 0, 1 0, 0 0", "0 0, 2 0, 2 0, 0 2", "0 0, 2 0, 0 2, 0 0", "1 1, 1 1, 1 1, 1 1",
		// All on one line, and edges that lead back.
		"0 0, 1 0, 2 0", "0 0, 2 0, 1 0", "0 0, 3 3, 1 1", "0 0, 1 2, 2 4, 3 6", "0 0, 4 0, 2 0, 2 2", "0 0, 4 0, 4 4, 4 2", "2 0, 4 0, 0 0, 0 3", "0 3, 2 0, 4 0, 0 0",
		// Edges that cross, in their middles and in a corner.
		"0 0, 2 2, 2 0, 0 2", "0 0, 4 3, -1 3, 3 0, 1 5", "0 0, 4 0, 2 2, 4 4, 0 4, 2 2", "0 0, 2 2, 4 0, 4 4, 2 2, 0 4",
		// A corner that touches an edge, an edge that touches a corner, or lies on one.
		"0 0, 4 0, 4 4, 2 0, 0 4", "0 0, 4 0, 4 4, 0 4, 2 0", "0 0, 2 0, 4 0, 4 4, 2 0, 0 4", "0 0, 5 0, 5 3, 4 3, 4 0, 1 0, 1 3, 0 3", "0 0, 3 0, 3 3, 0 3, 0 2, 3 2, 3 1, 0 1",
		"0 0, 4 0, 4 2, 2 0, 1 1", "0 0, 1 0, 0 1, 0 0, 1 0, 0 1", "0 0, 2 0, 2 2, 0 2, 0 0, 2 0, 2 2, 0 2", "0 0, 4 0, 4 4, 0 4, 0 0, 1 2",
		"-10000 -10000, 10000 10000, 10000 -10000, -10000 10000", "-10000 -10000, 10000 10000, 10000 9999, 0 0",
	} {
		p := poly(text)
		for i := range p {
			expectIsSimple(t, rotated(p, i), false)
			expectIsSimple(t, reversed(rotated(p, i)), false)
		}
	}
	for _, p := range special() {
		for i := range p {
			expectIsSimple(t, rotated(p, i), true)
			expectIsSimple(t, reversed(rotated(p, i)), true)
		}
	}
	// One more step, and the next edge touches another one.
	expectIsSimple(t, poly("-10000 -10000, 10000 10000, 10000 9998, 1 0"), true)
	expectIsSimple(t, poly("0 0, 4 0, 4 4, 2 1, 0 4"), true)
	nearlyFull := append(comb(8, 1, 9)[:31:31], at(14, 9))
	expectIsSimple(t, nearlyFull, false)
}

// every calls a function with all polygons of that many points of a small square.
func every(corners, side int, do func(p points)) {
	p := make(points, corners)
	var next func(i int)
	next = func(i int) {
		if i == corners {
			do(p)
			return
		}
		for k := range side * side {
			p[i] = at(k%side, k/side)
			next(i + 1)
		}
	}
	next(0)
}

// All small polygons are simple, and convex in normal form, exactly if the
// chapter's words say so.
func TestAllSmallPolygons(t *testing.T) {
	count := 0
	check := func(p points) {
		expectIsSimple(t, p, isSimple(p))
		isNormal := slices.Equal(wrapped(p), p)
		if isNormal {
			count++
		}
		expectConvex(t, p, isNormal)
	}
	every(3, 4, check)
	every(4, 3, check)
	every(5, 2, check)
	r := rand.New(rand.NewSource(41))
	for range 20000 {
		check(somePoints(r, between(r, 5, 8), 3))
	}
	for range 300 {
		check(somePoints(r, between(r, 3, 32), 10000))
	}
	if count < 300 {
		t.Errorf("only %d polygons are convex", count)
	}
}

func expectConvex(t *testing.T, p points, want bool) {
	t.Helper()
	if got, e := shape.Convex(p); got != want || e != api.OK {
		t.Errorf("Convex(%v) = %t, error %d, want %t", p, got, e, want)
	}
}

func TestConvex(t *testing.T) {
	normal := append(polys(
		"0 0, 1 0, 0 1", "0 0, 2 0, 2 2, 0 2", "0 -1, 1 0, 0 1, -1 0", "-5 3, 7 3, 2 9", "-10000 -10000, 10000 -10000, 10000 10000, -10000 10000", "-10000 -10000, 10000 9999, 10000 10000",
	), round(4, 0), round(12, 2), round(32, 0), round(32, 16))
	for _, p := range normal {
		expectConvex(t, p, true)
		for i := range p {
			expectConvex(t, rotated(p, i), i == 0)
			expectConvex(t, reversed(rotated(p, i)), false)
		}
	}
	for _, text := range []string{
		// Corners on the line through their neighbours.
		"0 0, 1 0, 2 0, 2 2, 0 2", "0 0, 2 0, 2 1, 2 2, 0 2", "0 0, 2 0, 0 2, 0 1", "0 0, 2 0, 1 1, 0 2", "0 0, 1 0, 2 0",
		// Not convex, and not simple: three that only turn to the left, but go round twice.
		"0 0, 4 0, 4 4, 2 1, 0 4", "0 0, 2 2, 2 0, 0 2", "0 0, 3 4, -2 1, 3 1, 0 4", "0 0, 1 0, 0 1, 0 0, 1 0, 0 1", "0 0, 4 0, 0 4, 1 1, 3 1, 1 3",
		"0 0, 0 0, 1 0, 0 1", "3 3, 3 3, 3 3",
	} {
		p := poly(text)
		for i := range p {
			expectConvex(t, rotated(p, i), false)
			expectConvex(t, reversed(rotated(p, i)), false)
		}
	}
}

func expectWhere(t *testing.T, p points, x api.Point, want int) {
	t.Helper()
	if got, e := shape.Where(p, x); got != want || e != api.OK {
		t.Errorf("Where(%v, %v) = %d, error %d, want %d", p, x, got, e, want)
	}
}

func TestWhere(t *testing.T) {
	fork := "0 0, 4 0, 4 4, 2 1, 0 4"
	stairs := "0 0, 3 0, 3 1, 2 1, 2 2, 1 2, 1 3, 0 3"
	great := "-10000 -10000, 10000 -10000, 10000 10000, -10000 10000"
	needle := "-10000 -10000, 10000 9999, 10000 10000"
	for _, c := range []struct {
		text string
		x    api.Point
		want int
	}{
		{fork, at(0, 0), 0}, {fork, at(2, 1), 0}, {fork, at(2, 0), 0}, {fork, at(0, 2), 0}, {fork, at(1, 1), 1}, {fork, at(3, 1), 1}, {fork, at(2, 2), -1},
		{fork, at(2, 4), -1}, {fork, at(1, 4), -1}, {fork, at(-1, 4), -1}, {fork, at(5, 4), -1}, {fork, at(-1, 0), -1}, {fork, at(5, 0), -1}, {fork, at(-1, 1), -1}, {fork, at(5, 1), -1},
		{fork, at(2, -1), -1}, {fork, at(2, 5), -1}, {fork, at(4, 4), 0}, {fork, at(0, 4), 0}, {fork, at(3, 3), -1}, {fork, at(1, 2), 1},
		// Lines that pass along edges, and through corners.
		{stairs, at(-1, 1), -1}, {stairs, at(1, 1), 1}, {stairs, at(2, 1), 0}, {stairs, at(3, 2), -1}, {stairs, at(-1, 2), -1}, {stairs, at(-1, 3), -1}, {stairs, at(2, 3), -1}, {stairs, at(-1, 0), -1}, {stairs, at(4, 0), -1},
		{"0 -1, 1 0, 0 1, -1 0", at(0, 0), 1}, {"0 -1, 1 0, 0 1, -1 0", at(-2, 0), -1}, {"0 -1, 1 0, 0 1, -1 0", at(-2, 1), -1}, {"0 -1, 1 0, 0 1, -1 0", at(2, 0), -1},
		{great, at(10000, 10000), 0}, {great, at(0, 0), 1}, {great, at(-9999, 9999), 1}, {great, at(-10000, 5), 0}, {"0 0, 9999 0, 0 9999", at(5000, 5000), -1}, {"0 0, 9999 0, 0 9999", at(5000, 4999), 0},
		{needle, at(0, 0), 0}, {needle, at(9999, 9999), 0}, {needle, at(9999, 9998), -1}, {needle, at(10000, 9999), 0}, {needle, at(-9999, -10000), -1},
		{"-10000 -10000, 10000 9998, 10000 10000", at(9999, 9998), 1}, {"-10000 -10000, 10000 9998, 10000 10000", at(9999, 9997), -1},
	} {
		p := poly(c.text)
		for i := range p {
			expectWhere(t, rotated(p, i), c.x, c.want)
			expectWhere(t, reversed(rotated(p, i)), c.x, c.want)
		}
	}
}

// counted returns how many points of a square have each result of Where, which
// is checked for each one.
func counted(t *testing.T, p points, most int) (inside, edges int) {
	t.Helper()
	onEdges := border(p)
	for x := -most; x <= most; x++ {
		for y := -most; y <= most; y++ {
			want := 0
			if !onEdges[at(x, y)] {
				want = side(p, at(x, y))
			}
			expectWhere(t, p, at(x, y), want)
			if want == 1 {
				inside++
			}
		}
	}
	return inside, len(onEdges)
}

func expectLattice(t *testing.T, p points, inside, edges int) {
	t.Helper()
	if m, n, e := shape.Lattice(p); m != inside || n != edges || e != api.OK {
		t.Errorf("Lattice(%v) = %d, %d, error %d, want %d, %d", p, m, n, e, inside, edges)
	}
}

// Where and Lattice: all points are looked at. S1: twice the area follows from
// their numbers.
func TestWhereAndLattice(t *testing.T) {
	r := rand.New(rand.NewSource(42))
	for i := range 500 {
		most := between(r, 1, 9)
		p := someSimple(r, between(r, 3, 3+i%30), most)
		inside, edges := counted(t, p, most+1)
		expectLattice(t, p, inside, edges)
		if twice, _ := shape.Area2(p); max(twice, -twice) != 2*inside+edges-2 {
			t.Errorf("%v has the area %d/2, %d points inside and %d on its edges", p, twice, inside, edges)
		}
	}
	for _, p := range special()[:7] {
		inside, edges := counted(t, p, 12)
		expectLattice(t, p, inside, edges)
	}
}

func TestLattice(t *testing.T) {
	for _, c := range []struct {
		text          string
		inside, edges int
	}{
		{"0 0, 2 0, 2 2, 0 2", 1, 8}, {"0 0, 0 2, 2 2, 2 0", 1, 8}, {"0 0, 1 0, 0 1", 0, 3}, {"0 0, 1 0, 2 0, 2 1, 2 2, 1 2, 0 2, 0 1", 1, 8},
		{"-10000 -10000, 10000 -10000, 10000 10000, -10000 10000", 19999 * 19999, 80000}, {"-10000 -10000, 10000 9999, 10000 10000", 0, 20002}, {"0 0, 7 0, 0 5", 12, 13},
		{"-10000 10000, 9999 -9999, 10000 -10000, 10000 10000", 199970001, 60000}, {"0 0, 9 3, 6 6", 13, 12},
	} {
		expectLattice(t, poly(c.text), c.inside, c.edges)
	}
	r := rand.New(rand.NewSource(43))
	for range 200 {
		p := someSimple(r, between(r, 3, 32), 10000)
		inside, edges, e := shape.Lattice(p)
		if size := area(p); e != api.OK || edges != len(border(p)) || max(size, -size) != 2*inside+edges-2 {
			t.Errorf("Lattice(%v) = %d, %d, error %d", p, inside, edges, e)
		}
	}
}
