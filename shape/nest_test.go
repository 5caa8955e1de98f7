package shape_test

import (
	"math/rand"
	"slices"
	"testing"

	"cracknel/api"
	"cracknel/shape"
)

// put reads what is placed: numbers of shapes, and vectors.
func put(triples ...[3]int) []api.Placed {
	var out []api.Placed
	for _, x := range triples {
		out = append(out, api.Placed{Shape: x[0], At: at(x[1], x[2])})
	}
	return out
}

func expectNest(t *testing.T, w, h int, shapes []points, want []api.Placed) {
	t.Helper()
	if got, e := shape.Nest(w, h, shapes); !slices.Equal(got, want) || e != api.OK {
		t.Errorf("Nest(%d, %d, %v) = %v, error %d, want %v", w, h, shapes, got, e, want)
	}
}

func TestNest(t *testing.T) {
	one, two, half, other := "0 0, 1 0, 1 1, 0 1", "0 0, 2 0, 2 2, 0 2", "0 0, 2 0, 0 2", "0 -2, 0 0, -2 0"
	diamond, wide, tall := "1 0, 2 1, 1 2, 0 1", "0 0, 3 0, 3 1, 0 1", "7 7, 8 7, 8 10, 7 10"
	for _, c := range []struct {
		w, h   int
		shapes []points
		want   []api.Placed
	}{
		{3, 2, polys(one, one, half), put([3]int{0, 0, 0}, [3]int{1, 1, 0})}, // Example 4.
		{1, 1, nil, nil}, {1, 1, polys(one, one), put([3]int{0, 0, 0})}, {1, 1, polys(two, one), put([3]int{1, 0, 0})}, {2, 2, polys(two, one), put([3]int{0, 0, 0})},
		// What is left out takes no room.
		{3, 1, polys(two, one, wide, one), put([3]int{1, 0, 0}, [3]int{3, 1, 0})}, {3, 3, polys(wide, tall, one), put([3]int{0, 0, 0}, [3]int{2, 0, 1})},
		// Lower is better than farther to the left.
		{4, 3, polys(two, one, one, one), put([3]int{0, 0, 0}, [3]int{1, 2, 0}, [3]int{2, 3, 0}, [3]int{3, 2, 1})}, {2, 4, polys(one, two, one), put([3]int{0, 0, 0}, [3]int{1, 0, 1}, [3]int{2, 1, 0})},
		// Edges that touch: both halves of a square, diamonds in a row and in their bays.
		{2, 2, polys(half, other), put([3]int{0, 0, 0}, [3]int{1, 0, 0})}, {2, 2, polys(other, half), put([3]int{0, 0, 0}, [3]int{1, 0, 0})}, {3, 2, polys(half, half), put([3]int{0, 0, 0})}, {4, 2, polys(half, other, half), put([3]int{0, 0, 0}, [3]int{1, 0, 0}, [3]int{2, 2, 0})},
		{3, 3, polys(half, half, half), put([3]int{0, 0, 0}, [3]int{1, 1, 1})}, {4, 3, polys(diamond, diamond, diamond), put([3]int{0, 0, 0}, [3]int{1, 2, 0}, [3]int{2, 1, 1})}, {3, 3, polys(diamond, diamond), put([3]int{0, 0, 0}, [3]int{1, 1, 1})},
		// Shapes that are far away, and at the limits; too wide, too tall.
		{3, 3, polys("9999 9999, 10000 9999, 10000 10000", "-10000 -10000, -9997 -10000, -9997 -9997, -10000 -9997", "-10000 5, -9999 5, -9999 6"), put([3]int{0, 0, 0}, [3]int{2, 1, 0})},
		{3, 100, polys("0 0, 4 0, 4 1, 0 1", wide), put([3]int{1, 0, 0})}, {100, 3, polys("0 0, 1 0, 1 4, 0 4", tall), put([3]int{1, 0, 0})},
		{100, 100, polys("-10000 -10000, 10000 -10000, 10000 10000, -10000 10000", "-10000 -10000, -9900 -10000, -9900 -9900, -10000 -9900", one), put([3]int{1, 0, 0})},
		{100, 100, polys("0 0, 101 0, 0 1", "0 0, 1 0, 0 101", "0 0, 100 0, 0 100", "100 0, 100 100, 0 100", one), put([3]int{2, 0, 0}, [3]int{3, 0, 0})},
		// The left lower place is free, but narrow.
		{5, 2, polys("0 0, 1 0, 0 2", "1 0, 1 2, 0 2", two), put([3]int{0, 0, 0}, [3]int{1, 0, 0}, [3]int{2, 1, 0})}, {4, 2, polys("2 0, 3 2, 1 2", half), put([3]int{0, 0, 0}, [3]int{1, 2, 0})},
	} {
		expectNest(t, c.w, c.h, c.shapes, c.want)
	}
	// As many as there may be, and the last one has just its place.
	var want []api.Placed
	for i := range 16 {
		want = append(want, api.Placed{Shape: i, At: at(25*(i%4), 25*(i/4))})
	}
	expectNest(t, 100, 100, slices.Repeat(polys("0 0, 25 0, 25 25, 0 25"), 16), want)
	expectNest(t, 99, 100, slices.Repeat(polys("0 0, 25 0, 25 25, 0 25"), 16), put(
		[3]int{0, 0, 0}, [3]int{1, 25, 0}, [3]int{2, 50, 0}, [3]int{3, 0, 25}, [3]int{4, 25, 25}, [3]int{5, 50, 25}, [3]int{6, 0, 50}, [3]int{7, 25, 50}, [3]int{8, 50, 50}, [3]int{9, 0, 75}, [3]int{10, 25, 75}, [3]int{11, 50, 75}))
}

// nested tries all vectors, from below and from the left, with the areas that
// shapes have in common.
func nested(w, h int, shapes []points) []api.Placed {
	var out []api.Placed
	var placed []points
	for i, s := range shapes {
		least := s[0]
		for _, x := range s {
			least = at(min(least.X, x.X), min(least.Y, x.Y))
		}
		s = shifted(s, at(-least.X, -least.Y))
		if x, hasPlace := firstPlace(w, h, s, placed); hasPlace {
			out = append(out, api.Placed{Shape: i, At: x})
			placed = append(placed, shifted(s, x))
		}
	}
	return out
}

func firstPlace(w, h int, s points, placed []points) (api.Point, bool) {
	for y := range h {
		for x := range w {
			here := shifted(s, at(x, y))
			isOut := func(x api.Point) bool { return x.X > w || x.Y > h }
			inWay := func(other points) bool { return overlap(other, here) }
			if !slices.ContainsFunc(here, isOut) && !slices.ContainsFunc(placed, inWay) {
				return at(x, y), true
			}
		}
	}
	return api.Point{}, false
}

// S7: no placed shape has a better place, and none that is left out has any.
func TestNestIsBottomLeft(t *testing.T) {
	r := rand.New(rand.NewSource(54))
	placed, left := 0, 0
	for range 250 {
		w, h := between(r, 1, 9), between(r, 1, 9)
		var shapes []points
		for range between(r, 0, 9) {
			shapes = append(shapes, shifted(someConvex(r, between(r, 3, 6), between(r, 1, 2)), somePoint(r, 50)))
		}
		want := nested(w, h, shapes)
		expectNest(t, w, h, shapes, want)
		placed, left = placed+len(want), left+len(shapes)-len(want)
	}
	if placed < 300 || left < 100 {
		t.Errorf("%d shapes are placed, %d are left out", placed, left)
	}
}

// Shapes of as many corners as there may be, on the largest sheet.
func TestNestOfRoundShapes(t *testing.T) {
	big := round(32, 0)
	shapes := slices.Repeat([]points{big}, 16)
	got, e := shape.Nest(100, 100, shapes)
	if e != api.OK || len(got) < 2 || got[0].At != at(0, 0) {
		t.Fatalf("Nest = %v, error %d", got, e)
	}
	for i, a := range got {
		for _, b := range got[:i] {
			by := at(a.At.X-b.At.X, a.At.Y-b.At.Y)
			expectApart(t, big, big, by, true)
		}
	}
}
