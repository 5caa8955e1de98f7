package shape_test

import (
	"math"
	"math/rand"
	"slices"
	"testing"

	"cracknel/api"
	"cracknel/shape"
)

func expectShows(t *testing.T, p points, triangles [][3]int, want bool) {
	t.Helper()
	if got, e := shape.Shows(p, triangles); got != want || e != api.OK {
		t.Errorf("Shows(%v, %v) = %t, error %d, want %t", p, triangles, got, e, want)
	}
}

// expectTriangles checks S5, and what Triangles returns without Shows.
func expectTriangles(t *testing.T, p points) {
	t.Helper()
	triangles, e := shape.Triangles(p)
	if e != api.OK || !isTriangulation(p, triangles) {
		t.Errorf("Triangles(%v) = %v, error %d", p, triangles, e)
	}
	expectShows(t, p, triangles, true)
}

func TestTriangles(t *testing.T) {
	for _, p := range special() {
		expectTriangles(t, p)
	}
	r := rand.New(rand.NewSource(51))
	for i := range 250 {
		expectTriangles(t, someSimple(r, between(r, 3, 3+i%30), []int{2, 4, 9, 10000}[i%4]))
	}
	if triangles, e := shape.Triangles(poly("5 5, 5 9, 9 5")); e != api.OK || !slices.Equal(triangles, [][3]int{{0, 1, 2}}) {
		t.Errorf("the triangles of a triangle are %v, error %d", triangles, e)
	}
}

func TestShows(t *testing.T) {
	square, fork, straight := poly("0 0, 2 0, 2 2, 0 2"), poly("0 0, 4 0, 4 4, 2 1, 0 4"), poly("0 0, 1 0, 2 0, 2 2, 0 2")
	bay := poly("0 0, 6 0, 6 6, 0 6, 0 3, 3 3, 3 2, 0 2")
	for _, c := range []struct {
		p         points
		triangles [][3]int
		want      bool
	}{
		{square, [][3]int{{0, 1, 2}, {0, 2, 3}}, true}, {square, [][3]int{{0, 2, 3}, {0, 1, 2}}, true}, {square, [][3]int{{0, 1, 3}, {1, 2, 3}}, true},
		{reversed(square), [][3]int{{0, 1, 2}, {0, 2, 3}}, true}, {reversed(square), [][3]int{{0, 1, 3}, {1, 2, 3}}, true},
		// An overlap, with the right area; twice the same.
		{square, [][3]int{{0, 1, 2}, {0, 1, 3}}, false}, {square, [][3]int{{0, 1, 2}, {1, 2, 3}}, false}, {square, [][3]int{{0, 1, 2}, {0, 1, 2}}, false},
		// Too few, too many, none.
		{square, nil, false}, {square, [][3]int{{0, 1, 2}}, false}, {square, [][3]int{{0, 1, 2}, {0, 2, 3}, {0, 1, 3}}, false}, {square, [][3]int{{0, 1, 2}, {0, 2, 3}, {0, 2, 3}}, false},
		// Numbers that are not rising, or of no points.
		{square, [][3]int{{0, 2, 1}, {0, 2, 3}}, false}, {square, [][3]int{{0, 1, 2}, {3, 2, 0}}, false}, {square, [][3]int{{0, 1, 2}, {2, 3, 4}}, false}, {square, [][3]int{{0, 1, 2}, {-1, 2, 3}}, false},
		{square, [][3]int{{0, 1, 2}, {0, 0, 0}}, false}, {square, [][3]int{{0, 1, 2}, {0, 2, 2}}, false}, {square, [][3]int{{0, 0, 2}, {0, 2, 3}}, false}, {square, [][3]int{{0, 1, 2}, {1, 0, 2}}, false},
		{square, [][3]int{{0, 1, 2}, {0, 2, math.MaxInt}}, false}, {square, [][3]int{{math.MinInt, 1, 2}, {0, 2, 3}}, false},
		// Not within the polygon, though the areas add up.
		{fork, [][3]int{{0, 1, 3}, {1, 2, 3}, {0, 3, 4}}, true}, {fork, [][3]int{{0, 1, 2}, {0, 2, 3}, {0, 3, 4}}, false}, {fork, [][3]int{{0, 1, 3}, {2, 3, 4}, {0, 3, 4}}, false},
		{fork, [][3]int{{0, 1, 4}, {1, 2, 3}, {1, 3, 4}}, false}, {fork, [][3]int{{0, 1, 3}, {1, 2, 3}, {0, 1, 3}}, false},
		// Triangles of the area 0, also where others have what is cut off at a straight corner.
		{straight, [][3]int{{0, 1, 2}, {0, 2, 3}, {0, 3, 4}}, true}, {straight, [][3]int{{0, 1, 2}, {0, 2, 4}, {2, 3, 4}}, true}, {straight, [][3]int{{0, 1, 4}, {1, 2, 3}, {1, 3, 4}}, true},
		{straight, [][3]int{{0, 1, 2}, {0, 1, 4}, {2, 3, 4}}, false}, {straight, [][3]int{{0, 1, 2}, {0, 1, 2}, {0, 2, 3}}, false}, {straight, [][3]int{{0, 1, 4}, {1, 2, 4}, {2, 3, 4}}, true},
		// The areas add up, but numbers are the same, not rising, or of no points.
		{straight, [][3]int{{0, 2, 3}, {0, 3, 4}, {0, 0, 1}}, false}, {straight, [][3]int{{0, 2, 3}, {0, 3, 4}, {0, 1, 1}}, false}, {straight, [][3]int{{2, 2, 2}, {0, 2, 3}, {0, 3, 4}}, false},
		{straight, [][3]int{{0, 2, 3}, {0, 2, 1}, {0, 3, 4}}, false}, {straight, [][3]int{{0, 2, 3}, {0, 3, 4}, {1, 0, 2}}, false}, {straight, [][3]int{{0, 3, 2}, {0, 3, 4}, {0, 1, 2}}, false},
		{straight, [][3]int{{0, 2, 3}, {0, 3, 4}, {0, 4, 5}}, false}, {straight, [][3]int{{0, 2, 3}, {0, 3, 4}, {-1, 0, 1}}, false},
		// One triangle is enough, if one beside it has no area.
		{poly("0 0, 2 0, 4 0, 2 2"), [][3]int{{0, 1, 2}, {0, 2, 3}}, true}, {poly("0 0, 2 0, 4 0, 2 2"), [][3]int{{0, 1, 3}, {1, 2, 3}}, true}, {poly("0 0, 2 0, 4 0, 2 2"), [][3]int{{0, 1, 2}, {0, 1, 3}}, false},
		// The bay's triangle is as large as another one.
		{bay, [][3]int{{0, 1, 6}, {0, 6, 7}, {1, 2, 6}, {2, 5, 6}, {2, 3, 5}, {3, 4, 5}}, true}, {bay, [][3]int{{0, 1, 6}, {4, 6, 7}, {1, 2, 6}, {2, 5, 6}, {2, 3, 5}, {3, 4, 5}}, false},
		{bay, [][3]int{{0, 1, 6}, {0, 6, 7}, {1, 2, 6}, {2, 5, 6}, {2, 3, 5}, {0, 4, 7}}, false},
	} {
		if isTriangulation(c.p, c.triangles) != c.want {
			t.Fatalf("the oracle says something else of %v, %v", c.p, c.triangles)
		}
		expectShows(t, c.p, c.triangles, c.want)
	}
}

// A triangle of the area 0 may be outside, and may occur twice: it only counts.
func TestTrianglesWithoutArea(t *testing.T) {
	// The line from 3 by 5 to 7 is above two bays.
	crown := poly("0 0, 4 0, 8 0, 8 4, 6 2, 4 4, 2 2, 0 4")
	cover := [][3]int{{0, 2, 6}, {2, 4, 6}, {4, 5, 6}, {2, 3, 4}, {0, 6, 7}}
	expectShows(t, crown, cover, false)
	expectShows(t, crown, append(slices.Clone(cover), [3]int{0, 1, 2}), true)
	expectShows(t, crown, append(slices.Clone(cover), [3]int{3, 5, 7}), true)
	expectShows(t, reversed(crown), append(slices.Clone(cover), [3]int{3, 5, 7}), false)
	expectShows(t, crown, append(slices.Clone(cover), [3]int{3, 5, 7}, [3]int{0, 1, 2}), false)
	expectShows(t, crown, append(slices.Clone(cover), [3]int{3, 5, 6}), false)
	tooLittle := slices.Clone(cover)
	tooLittle[0] = [3]int{3, 5, 7}
	expectShows(t, crown, append(tooLittle, [3]int{0, 1, 2}), false)
	shelf := poly("0 0, 6 0, 6 3, 5 3, 4 3, 3 3, 3 1, 2 1, 1 1, 0 1")
	rest := [][3]int{{0, 1, 9}, {1, 6, 9}, {1, 2, 6}, {2, 5, 6}}
	expectShows(t, shelf, slices.Concat(rest, [][3]int{{2, 3, 4}, {2, 4, 5}, {6, 7, 8}, {6, 8, 9}}), true)
	expectShows(t, shelf, slices.Concat(rest, slices.Repeat([][3]int{{2, 3, 5}}, 4)), true)
	expectShows(t, shelf, slices.Concat(rest, slices.Repeat([][3]int{{2, 3, 5}}, 3)), false)
	expectShows(t, shelf, slices.Repeat([][3]int{{2, 3, 5}}, 8), false)
}

// threes returns all rising triples of numbers below n.
func threes(n int) [][3]int {
	var out [][3]int
	for a := range n {
		for b := a + 1; b < n; b++ {
			for c := b + 1; c < n; c++ {
				out = append(out, [3]int{a, b, c})
			}
		}
	}
	return out
}

// All lists of triangles of small polygons are accepted exactly if they are
// triangulations.
func TestShowsAllLists(t *testing.T) {
	r := rand.New(rand.NewSource(52))
	accepted, refused := 0, 0
	check := func(p points, list [][3]int) {
		want := isTriangulation(p, list)
		expectShows(t, p, list, want)
		if want {
			accepted++
		} else {
			refused++
		}
	}
	for range 60 {
		p := someSimple(r, 4, between(r, 1, 4))
		all := threes(len(p))
		for _, a := range all {
			check(p, [][3]int{a})
			for _, b := range all {
				check(p, [][3]int{a, b})
			}
		}
	}
	for range 12 {
		p := someSimple(r, 5, between(r, 1, 3))
		all := threes(len(p))
		for i, a := range all {
			for j, b := range all[i:] {
				for _, c := range all[i+j:] {
					check(p, [][3]int{a, b, c})
				}
			}
		}
	}
	if accepted < 100 || refused < 1000 {
		t.Errorf("%d lists are accepted, %d are refused", accepted, refused)
	}
}

// A triangulation in which one triangle is another one shows nothing, unless it
// is one again.
func TestShowsChanged(t *testing.T) {
	r := rand.New(rand.NewSource(53))
	for i := range 150 {
		p := someSimple(r, between(r, 4, 12), []int{2, 4, 10000}[i%3])
		list, _ := shape.Triangles(p)
		all := threes(len(p))
		for range 6 {
			changed := slices.Clone(list)
			changed[r.Intn(len(list))] = all[r.Intn(len(all))]
			if r.Intn(2) == 0 {
				changed[r.Intn(len(list))] = all[r.Intn(len(all))]
			}
			expectShows(t, p, changed, isTriangulation(p, changed))
		}
	}
}
