package shape_test

import (
	"math/big"
	"math/rand"
	"slices"
	"testing"

	"cracknel/api"
	"cracknel/shape"
)

func expectHull(t *testing.T, all, want points) {
	t.Helper()
	wanted := api.OK
	if want == nil {
		wanted = api.ErrNone
	}
	if got, e := shape.Hull(all); !slices.Equal(got, want) || e != wanted {
		t.Errorf("Hull(%v) = %v, error %d, want %v, error %d", all, got, e, want, wanted)
	}
}

func TestHull(t *testing.T) {
	expectHull(t, poly("0 0, 1 0, 2 0, 0 2, 1 1"), poly("0 0, 2 0, 0 2")) // Example 2.
	for _, text := range []string{
		"0 0", "5 5, 5 5, 5 5", "0 0, 1 0", "0 0, 1 0, 7 0, 3 0", "0 0, 0 9, 0 -3", "0 0, 1 1, 5 5, 5 5, -10000 -10000, 10000 10000", "2 1, 4 2, 4 2, -2 -1, 2 1", "10000 -10000",
		"0 0, 3 -1, 6 -2, 3 -1, 0 0, 9999 -3333",
	} {
		expectHull(t, poly(text), nil)
		expectHull(t, reversed(poly(text)), nil)
	}
	for _, c := range [][2]string{
		{"0 0, 1 0, 0 1", "0 0, 1 0, 0 1"}, {"1 1, 0 0, 0 1, 1 0", "0 0, 1 0, 1 1, 0 1"}, {"3 0, 0 0, 0 0, 3 0, 1 1, 1 1", "0 0, 3 0, 1 1"},
		// Corners that occur again, at the beginning and at the end; all edges full.
		{"0 0, 0 0, 2 2, 2 2, 0 2, 0 2, 2 0, 2 0", "0 0, 2 0, 2 2, 0 2"}, {"0 0, 1 0, 2 0, 0 1, 1 1, 2 1, 0 2, 1 2, 2 2", "0 0, 2 0, 2 2, 0 2"},
		{"5 5, 3 5, 4 5, 4 6", "3 5, 5 5, 4 6"}, {"4 4, 3 5, 4 5, 5 5", "4 4, 5 5, 3 5"}, {"0 3, 0 2, 0 1, 0 0, -1 1", "0 0, 0 3, -1 1"}, {"0 0, 0 1, 0 2, 0 3, 1 1", "0 0, 1 1, 0 3"},
		{"-10000 -10000, 10000 10000, 0 0, 9999 9999, 10000 9999", "-10000 -10000, 10000 9999, 10000 10000"},
		{"10000 10000, -10000 10000, -10000 -10000, 10000 -10000", "-10000 -10000, 10000 -10000, 10000 10000, -10000 10000"},
	} {
		expectHull(t, poly(c[0]), poly(c[1]))
		expectHull(t, reversed(poly(c[0])), poly(c[1]))
	}
	expectHull(t, reversed(round(32, 0)), round(32, 0))
}

// S2: the points are in the hull or on its edges, its corners are some of them,
// and it is its own hull.
func TestHullHoldsPoints(t *testing.T) {
	r := rand.New(rand.NewSource(44))
	for range 3000 {
		all := somePoints(r, between(r, 1, 32), []int{1, 2, 5, 30, 10000}[r.Intn(5)])
		expectHull(t, all, wrapped(all))
		h, e := shape.Hull(all)
		if e == api.ErrNone {
			continue
		}
		expectConvex(t, h, true)
		expectHull(t, h, h)
		for _, x := range all {
			if w, e := shape.Where(h, x); w < 0 || e != api.OK {
				t.Errorf("%v is outside the hull %v", x, h)
			}
		}
		for _, x := range h {
			if !slices.Contains(all, x) {
				t.Errorf("%v is a corner of the hull of %v", x, all)
			}
		}
	}
}

func expectNegative(t *testing.T, a, want points) {
	t.Helper()
	if got, e := shape.Negative(a); !slices.Equal(got, want) || e != api.OK {
		t.Errorf("Negative(%v) = %v, error %d, want %v", a, got, e, want)
	}
}

func TestNegative(t *testing.T) {
	for _, c := range [][2]string{
		{"0 0, 2 0, 0 2", "0 -2, 0 0, -2 0"}, {"0 0, 1 0, 1 1, 0 1", "-1 -1, 0 -1, 0 0, -1 0"}, {"3 4, 9 5, 4 5", "-9 -5, -4 -5, -3 -4"}, {"0 -1, 1 0, 0 1, -1 0", "0 -1, 1 0, 0 1, -1 0"},
		{"-10000 -10000, 10000 9999, 10000 10000", "-10000 -10000, 10000 10000, -10000 -9999"},
	} {
		want, _ := shape.Hull(poly(c[1])) // The last one is not in normal form.
		expectNegative(t, poly(c[0]), want)
	}
	r := rand.New(rand.NewSource(45))
	for range 1000 {
		a := someConvex(r, between(r, 3, 32), []int{2, 9, 10000}[r.Intn(3)])
		want := wrapped(scaled(a, -1))
		expectNegative(t, a, want)
		expectNegative(t, want, a)
		expectArea2(t, want, area(a))
	}
	center := shifted(round(32, 0), at(-5000, -5000))
	expectNegative(t, center, wrapped(scaled(center, -1)))
}

func expectSum(t *testing.T, a, b, want points) {
	t.Helper()
	for _, pair := range [][2]points{{a, b}, {b, a}} {
		if got, e := shape.Sum(pair[0], pair[1]); !slices.Equal(got, want) || e != api.OK {
			t.Errorf("Sum(%v, %v) = %v, error %d, want %v", pair[0], pair[1], got, e, want)
		}
	}
}

func TestSum(t *testing.T) {
	expectSum(t, poly("0 0, 2 0, 0 2"), poly("0 0, 1 0, 1 1, 0 1"), poly("0 0, 3 0, 3 1, 1 3, 0 3")) // Example 3.
	for _, c := range [][3]string{
		{"0 0, 1 0, 0 1", "0 0, 1 0, 0 1", "0 0, 2 0, 0 2"}, {"0 0, 1 0, 0 1", "0 -1, 0 0, -1 0", "0 -1, 1 -1, 1 0, 0 1, -1 1, -1 0"},
		{"0 -1, 1 0, 0 1, -1 0", "-1 -1, 1 -1, 1 1, -1 1", "-1 -2, 1 -2, 2 -1, 2 1, 1 2, -1 2, -2 1, -2 -1"}, {"3 3, 5 3, 4 8", "-1 -7, 0 -5, -1 -5", "2 -4, 4 -4, 5 -2, 4 3, 3 3, 2 -2"},
		{"-10000 -10000, 10000 -10000, 10000 10000, -10000 10000", "-10000 -10000, 10000 -10000, 10000 10000, -10000 10000", "-20000 -20000, 20000 -20000, 20000 20000, -20000 20000"},
		{"-10000 -10000, 10000 9999, 10000 10000", "-10000 -10000, 10000 9999, 10000 10000", "-20000 -20000, 20000 19998, 20000 20000"},
	} {
		want := poly(c[2])
		if wrapped(want)[0] != want[0] {
			t.Fatalf("%v is not in normal form", want)
		}
		expectSum(t, poly(c[0]), poly(c[1]), wrapped(sums(poly(c[0]), poly(c[1]))))
		expectSum(t, poly(c[0]), poly(c[1]), want)
	}
	// No two edges have the same direction, or all of them.
	expectSum(t, round(32, 0), round(32, 16), round(64, 0))
	expectSum(t, round(32, 0), round(32, 0), scaled(round(32, 0), 2))
	r := rand.New(rand.NewSource(46))
	for range 1500 {
		most := []int{1, 2, 5, 40, 10000}[r.Intn(5)]
		a, b := someConvex(r, between(r, 3, 12), most), someConvex(r, between(r, 3, 12), most)
		expectSum(t, a, b, wrapped(sums(a, b)))
	}
}

// S3: three are summed up in any order, as long as the sums are allowed; and the
// sum of a polygon with itself has four times its area.
func TestSumsOfThree(t *testing.T) {
	r := rand.New(rand.NewSource(47))
	sumOf := func(a, b points) points {
		s, e := shape.Sum(a, b)
		if e != api.OK {
			t.Fatalf("Sum(%v, %v): error %d", a, b, e)
		}
		return s
	}
	for range 1000 {
		most := []int{2, 9, 3000}[r.Intn(3)]
		a, b, c := someConvex(r, 5, most), someConvex(r, 6, most), someConvex(r, 4, most)
		left, right := sumOf(sumOf(a, b), c), sumOf(a, sumOf(b, c))
		if !slices.Equal(left, right) || !slices.Equal(left, sumOf(b, sumOf(c, a))) {
			t.Errorf("the sum of %v, %v and %v is %v or %v", a, b, c, left, right)
		}
		if twice, e := shape.Area2(sumOf(a, a)); twice != 4*area(a) || e != api.OK {
			t.Errorf("Area2 of %v twice is %d", a, twice)
		}
	}
	// Sums that are no arguments any more.
	for _, s := range []points{sumOf(round(32, 0), round(32, 16)), sumOf(poly("9000 0, 10000 0, 10000 1"), poly("0 0, 1 0, 0 1"))} {
		if _, e := shape.Sum(s, poly("0 0, 1 0, 0 1")); e != api.ErrArg {
			t.Errorf("Sum of %v: error %d", s, e)
		}
	}
}

// S6: √s is at least √a + √b exactly if s - a - b is 0 or more, and its square at
// least 4ab.
func TestBrunnAndMinkowski(t *testing.T) {
	r := rand.New(rand.NewSource(48))
	isLarge := func(a, b points) (isAtLeast, isEqual bool) {
		s, _ := shape.Sum(a, b)
		rest := big.NewInt(int64(area(s) - area(a) - area(b)))
		least := new(big.Int).Mul(big.NewInt(int64(4*area(a))), big.NewInt(int64(area(b))))
		order := new(big.Int).Mul(rest, rest).Cmp(least)
		return rest.Sign() >= 0 && order >= 0, order == 0
	}
	for range 1500 {
		most := []int{2, 9, 10000}[r.Intn(3)]
		a, b := someConvex(r, between(r, 3, 9), most), someConvex(r, between(r, 3, 9), most)
		if isAtLeast, _ := isLarge(a, b); !isAtLeast {
			t.Errorf("the sum of %v and %v is too small", a, b)
		}
		if most < 10 {
			if _, isEqual := isLarge(a, shifted(scaled(a, 3), at(7, -7))); !isEqual {
				t.Errorf("the sum of %v and three times itself has another area", a)
			}
		}
	}
}

func expectApart(t *testing.T, a, b points, by api.Point, want bool) {
	t.Helper()
	if got, e := shape.Apart(a, b, by); got != want || e != api.OK {
		t.Errorf("Apart(%v, %v, %v) = %t, error %d, want %t", a, b, by, got, e, want)
	}
	if got, e := shape.Apart(b, a, at(-by.X, -by.Y)); got != want || e != api.OK {
		t.Errorf("Apart(%v, %v, -%v) = %t, error %d, want %t", b, a, by, got, e, want)
	}
}

func TestApart(t *testing.T) {
	square, triangle, diamond := "0 0, 2 0, 2 2, 0 2", "0 0, 2 0, 0 2", "0 -1, 1 0, 0 1, -1 0"
	great, thin, thick := "-10000 -10000, 10000 -10000, 10000 10000, -10000 10000", "-10000 -10000, 10000 9999, 10000 10000", "-10000 -10000, 10000 10000, -10000 -9999"
	for _, c := range []struct {
		a, b string
		by   api.Point
		want bool
	}{
		// Without an overlap, but with edges and corners that touch.
		{square, square, at(2, 0), true}, {square, square, at(2, 1), true}, {square, square, at(2, 2), true}, {square, square, at(0, -2), true}, {square, square, at(-2, 1), true}, {square, square, at(3, 0), true},
		{square, square, at(0, 0), false}, {square, square, at(1, 1), false}, {square, square, at(1, 0), false}, {square, square, at(-1, -1), false},
		{triangle, triangle, at(1, 1), true}, {triangle, triangle, at(1, 0), false}, {triangle, triangle, at(0, 1), false}, {triangle, triangle, at(2, 0), true}, {triangle, "0 -2, 0 0, -2 0", at(2, 2), true},
		{triangle, "0 -2, 0 0, -2 0", at(1, 2), false}, {triangle, diamond, at(2, 1), true}, {triangle, diamond, at(1, 1), false}, {diamond, diamond, at(1, 1), true}, {diamond, diamond, at(2, 0), true}, {diamond, diamond, at(1, 0), false},
		// One within the other one.
		{"0 0, 9 0, 9 9, 0 9", square, at(4, 4), false}, {"0 0, 9 0, 9 9, 0 9", square, at(0, 0), false}, {"0 0, 9 0, 9 9, 0 9", square, at(9, 3), true},
		// No upright line is between them.
		{"0 0, 5 5, 0 1", "0 0, 5 4, 5 5", at(0, 0), true}, {"0 0, 5 5, 0 1", "0 0, 5 4, 5 5", at(0, 1), true}, {"0 0, 5 5, 0 1", "0 0, 5 4, 5 5", at(-1, 0), false}, {"0 0, 9 0, 0 9", "1 1, 1 2, 0 2", at(7, 0), true}, {"0 0, 9 0, 0 9", "1 1, 1 2, 0 2", at(6, 0), false},
		{great, great, at(20000, 20000), true}, {great, great, at(19999, -19999), false}, {great, great, at(-20000, 0), true}, {thin, thick, at(0, 0), true}, {thin, thick, at(1, 0), false}, {thin, thick, at(-1, 0), true},
		{thin, thick, at(20000, -20000), true}, {square, square, at(20000, 20000), true}, {square, square, at(-20000, -20000), true},
	} {
		expectApart(t, poly(c.a), poly(c.b), c.by, c.want)
	}
	r := rand.New(rand.NewSource(49))
	for range 3000 {
		most := []int{1, 3, 6, 10000}[r.Intn(4)]
		a, b, by := someConvex(r, between(r, 3, 7), most), someConvex(r, between(r, 3, 7), most), somePoint(r, 2*most)
		expectApart(t, a, b, by, !overlap(a, shifted(b, by)))
	}
}

// S4: b moved by a vector overlaps a exactly if it is in the interior of the sum
// of a and the negative of b.
func TestNoFitPolygon(t *testing.T) {
	r := rand.New(rand.NewSource(50))
	count := [3]int{}
	for range 200 {
		most := between(r, 1, 4)
		a, b := someConvex(r, between(r, 3, 8), most), someConvex(r, between(r, 3, 8), most)
		n, _ := shape.Negative(b)
		s, e := shape.Sum(a, n)
		if e != api.OK {
			t.Fatalf("Sum(%v, %v): error %d", a, n, e)
		}
		for x := -2*most - 1; x <= 2*most+1; x++ {
			for y := -2*most - 1; y <= 2*most+1; y++ {
				w, _ := shape.Where(s, at(x, y))
				count[w+1]++
				expectApart(t, a, b, at(x, y), w < 1)
			}
		}
	}
	if slices.Min(count[:]) < 500 {
		t.Errorf("only %v points are outside, on edges and inside", count)
	}
}
