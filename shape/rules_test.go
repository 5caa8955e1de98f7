package shape_test

import (
	"math"
	"math/rand"
	"reflect"
	"slices"
	"testing"

	"cracknel/api"
	"cracknel/shape"
)

// What a function asks of its polygons.
const (
	anyPolygon = iota
	simplePolygon
	convexPolygon
)

// A call of a function with a polygon, and what else it needs; it returns all
// results but the error.
type call struct {
	name string
	asks int
	do   func(p points) ([]any, api.Errno)
}

func calls() []call {
	unit := poly("0 0, 1 0, 0 1")
	return []call{
		{"Area2", anyPolygon, func(p points) ([]any, api.Errno) { n, e := shape.Area2(p); return []any{n}, e }},
		{"Simple", anyPolygon, func(p points) ([]any, api.Errno) { is, e := shape.Simple(p); return []any{is}, e }},
		{"Convex", anyPolygon, func(p points) ([]any, api.Errno) { is, e := shape.Convex(p); return []any{is}, e }},
		{"Where", simplePolygon, func(p points) ([]any, api.Errno) { n, e := shape.Where(p, at(-3, 7)); return []any{n}, e }},
		{"Lattice", simplePolygon, func(p points) ([]any, api.Errno) { m, n, e := shape.Lattice(p); return []any{m, n}, e }},
		{"Triangles", simplePolygon, func(p points) ([]any, api.Errno) { l, e := shape.Triangles(p); return []any{l}, e }},
		{"Shows", simplePolygon, func(p points) ([]any, api.Errno) {
			is, e := shape.Shows(p, [][3]int{{0, 1, 2}})
			return []any{is}, e
		}},
		{"Negative", convexPolygon, func(p points) ([]any, api.Errno) { l, e := shape.Negative(p); return []any{l}, e }},
		{"Sum of it", convexPolygon, func(p points) ([]any, api.Errno) { l, e := shape.Sum(p, unit); return []any{l}, e }},
		{"Sum with it", convexPolygon, func(p points) ([]any, api.Errno) { l, e := shape.Sum(unit, p); return []any{l}, e }},
		{"Apart of it", convexPolygon, func(p points) ([]any, api.Errno) {
			is, e := shape.Apart(p, unit, at(1, 1))
			return []any{is}, e
		}},
		{"Apart with it", convexPolygon, func(p points) ([]any, api.Errno) {
			is, e := shape.Apart(unit, p, at(1, 1))
			return []any{is}, e
		}},
		{"Nest", convexPolygon, func(p points) ([]any, api.Errno) {
			l, e := shape.Nest(100, 100, []points{unit, p, unit})
			return []any{l}, e
		}},
	}
}

// expectError checks R3: results beside an error are zero values; a slice may be
// empty.
func expectError(t *testing.T, name string, results []any, got, want api.Errno) {
	t.Helper()
	if got != want {
		t.Errorf("%s: error %d, want %d", name, got, want)
	}
	for _, x := range results {
		if v := reflect.ValueOf(x); got != api.OK && !v.IsZero() && (v.Kind() != reflect.Slice || v.Len() > 0) {
			t.Errorf("%s: %v beside an error", name, x)
		}
	}
}

// expectErrors checks the error of all functions for a polygon, by what they ask.
func expectErrors(t *testing.T, p points, wants ...api.Errno) {
	t.Helper()
	for _, c := range calls() {
		results, e := c.do(p)
		expectError(t, c.name, results, e, wants[c.asks])
	}
}

// far returns coordinates that are not valid.
func far() []int {
	return []int{api.MaxCoord + 1, -api.MaxCoord - 1, 2 * api.MaxCoord, math.MaxInt, math.MinInt, math.MinInt + 1, math.MaxInt32, 1 << 32}
}

func TestInvalidPolygons(t *testing.T) {
	for _, p := range []points{nil, {}, poly("0 0"), poly("0 0, 1 0"), append(round(32, 0), at(0, 1)), make(points, 33), make(points, 100000)} {
		expectErrors(t, p, api.ErrArg, api.ErrArg, api.ErrArg)
	}
	// ErrArg comes before ErrForm: some of these are not simple, or not convex.
	for _, p := range polysWithRoom() {
		for i := range p {
			for _, x := range far() {
				wrong, high := slices.Clone(p), slices.Clone(p)
				wrong[i].X, high[i].Y = x, x
				expectErrors(t, wrong, api.ErrArg, api.ErrArg, api.ErrArg)
				expectErrors(t, high, api.ErrArg, api.ErrArg, api.ErrArg)
			}
		}
	}
}

func polysWithRoom() []points {
	return append(polys("0 0, 2 0, 0 2", "0 0, 2 2, 2 0, 0 2", "0 0, 4 0, 4 4, 2 1, 0 4", "0 0, 0 0, 0 0"), round(32, 0))
}

func TestMalformedPolygons(t *testing.T) {
	for _, text := range []string{
		"0 0, 0 0, 0 0", "0 0, 1 0, 2 0", "0 0, 2 0, 1 0", "0 0, 2 2, 2 0, 0 2", "0 0, 4 0, 4 4, 2 0, 0 4", "0 0, 2 0, 2 0, 0 2", "0 0, 3 4, -2 1, 3 1, 0 4",
		"-10000 -10000, 10000 10000, 0 0, 10000 -10000", "0 0, 1 0, 0 1, 0 0, 1 0, 0 1",
	} {
		expectErrors(t, poly(text), api.OK, api.ErrForm, api.ErrForm)
	}
	expectErrors(t, slices.Repeat(poly("1 1"), 32), api.OK, api.ErrForm, api.ErrForm)
	for _, p := range append(polys(
		"0 0, 4 0, 4 4, 2 1, 0 4", "0 0, 0 1, 1 0", "1 0, 0 1, 0 0", "0 1, 0 0, 1 0", "0 0, 1 0, 2 0, 0 2", "0 0, 2 0, 2 2, 0 2, 0 1", "2 0, 2 2, 0 2, 0 0", "1 0, 1 1, 0 1, 0 0",
	), comb(8, 1, 9), spiral(), reversed(round(32, 0)), rotated(round(32, 0), 31), rotated(round(32, 0), 1)) {
		expectSimple(t, p)
		expectErrors(t, p, api.OK, api.OK, api.ErrForm)
	}
}

// The limits that the document names are allowed.
func TestLimits(t *testing.T) {
	great := poly("-10000 -10000, 10000 -10000, 10000 10000, -10000 10000")
	expectErrors(t, great, api.OK, api.OK, api.OK)
	expectErrors(t, round(32, 0), api.OK, api.OK, api.OK)
	expectErrors(t, poly("10000 -10000, 10000 10000, -10000 10000"), api.OK, api.OK, api.OK)
	expectErrors(t, spiral(), api.OK, api.OK, api.ErrForm)
}

func TestErrorsOfHull(t *testing.T) {
	for _, all := range []points{nil, {}, make(points, 33), append(round(32, 0), at(0, 0)), make(points, 50000)} {
		h, e := shape.Hull(all)
		expectError(t, "Hull", []any{h}, e, api.ErrArg)
	}
	// ErrArg comes before ErrNone.
	for _, x := range far() {
		for _, all := range []points{{at(x, 0)}, {at(0, x)}, {at(0, 0), at(1, x), at(2, 0)}, {at(x, x), at(0, 0), at(1, 1), at(1, 0)}, {at(0, 0), at(1, 0), at(0, 1), at(x, 0)}} {
			h, e := shape.Hull(all)
			expectError(t, "Hull", []any{h}, e, api.ErrArg)
		}
	}
	for _, all := range []points{make(points, 1), make(points, 32), poly("10000 10000, -10000 -10000")} {
		h, e := shape.Hull(all)
		expectError(t, "Hull", []any{h}, e, api.ErrNone)
	}
}

// Polygons that are good, malformed in two ways, and invalid.
func good() points    { return poly("0 0, 2 0, 0 2") }
func crossed() points { return poly("0 0, 2 2, 2 0, 0 2") }
func dented() points  { return poly("0 0, 4 0, 4 4, 2 1, 0 4") }
func invalid() points { return poly("0 0, 2 0, 0 10001") }

// Where's point is checked after its polygon.
func TestErrorsOfWhere(t *testing.T) {
	for _, x := range far() {
		for _, c := range []struct {
			p    points
			want api.Errno
		}{{good(), api.ErrArg}, {crossed(), api.ErrForm}, {invalid(), api.ErrArg}, {dented(), api.ErrArg}, {poly("0 0, 1 1, 2 2"), api.ErrForm}} {
			for _, bad := range []api.Point{at(x, 0), at(0, x), at(x, x)} {
				n, e := shape.Where(c.p, bad)
				expectError(t, "Where", []any{n}, e, c.want)
			}
		}
	}
	for _, x := range poly("10000 10000, -10000 10000, 10000 -10000, -10000 -10000") {
		expectWhere(t, good(), x, -1)
	}
}

// The first polygon is checked before the second one, and both before the vector.
func TestErrorsOfTwo(t *testing.T) {
	near, beyond := at(2*api.MaxCoord, -2*api.MaxCoord), at(0, 2*api.MaxCoord+1)
	for _, c := range []struct {
		a, b    points
		by      api.Point
		sum, is api.Errno
	}{
		{good(), good(), near, api.OK, api.OK}, {good(), good(), beyond, api.OK, api.ErrArg},
		{invalid(), good(), near, api.ErrArg, api.ErrArg}, {good(), invalid(), near, api.ErrArg, api.ErrArg}, {crossed(), good(), near, api.ErrForm, api.ErrForm}, {good(), crossed(), near, api.ErrForm, api.ErrForm},
		{dented(), good(), near, api.ErrForm, api.ErrForm}, {good(), dented(), near, api.ErrForm, api.ErrForm},
		{invalid(), crossed(), beyond, api.ErrArg, api.ErrArg}, {crossed(), invalid(), beyond, api.ErrForm, api.ErrForm}, {dented(), nil, beyond, api.ErrForm, api.ErrForm}, {nil, dented(), beyond, api.ErrArg, api.ErrArg},
		{good(), dented(), beyond, api.ErrForm, api.ErrForm}, {dented(), good(), beyond, api.ErrForm, api.ErrForm}, {good(), nil, near, api.ErrArg, api.ErrArg},
	} {
		s, e := shape.Sum(c.a, c.b)
		expectError(t, "Sum", []any{s}, e, c.sum)
		is, e := shape.Apart(c.a, c.b, c.by)
		expectError(t, "Apart", []any{is}, e, c.is)
	}
	for _, x := range []int{2*api.MaxCoord + 1, -2*api.MaxCoord - 1, math.MaxInt, math.MinInt, 1 << 32} {
		for _, by := range []api.Point{at(x, 0), at(0, x), at(x, x), at(-1, x)} {
			is, e := shape.Apart(good(), good(), by)
			expectError(t, "Apart", []any{is}, e, api.ErrArg)
		}
	}
	for _, by := range poly("20000 20000, -20000 20000, 20000 -20000, -20000 -20000") {
		expectApart(t, good(), good(), by, true)
	}
}

// Shows has no errors but those of its polygon, whatever the triangles are.
func TestErrorsOfShows(t *testing.T) {
	for _, triangles := range [][][3]int{nil, {}, {{0, 1, 2}}, {{2, 1, 0}}, {{-1, 5, math.MaxInt}}, {{math.MinInt, 0, 1}, {0, 1, 2}}, make([][3]int, 100000)} {
		for _, c := range []struct {
			p    points
			want api.Errno
		}{{invalid(), api.ErrArg}, {crossed(), api.ErrForm}, {dented(), api.OK}, {nil, api.ErrArg}} {
			is, e := shape.Shows(c.p, triangles)
			expectError(t, "Shows", []any{is}, e, c.want)
			if is {
				t.Errorf("Shows(%v, %.100v)", c.p, triangles)
			}
		}
	}
}

// The sheet and the number of shapes come first, then each shape.
func TestErrorsOfNest(t *testing.T) {
	for _, c := range []struct {
		w, h   int
		shapes []points
		want   api.Errno
	}{
		{1, 1, nil, api.OK}, {100, 100, nil, api.OK}, {1, 100, nil, api.OK}, {100, 100, slices.Repeat([]points{good()}, 16), api.OK},
		{0, 1, nil, api.ErrArg}, {1, 0, nil, api.ErrArg}, {101, 5, nil, api.ErrArg}, {5, 101, nil, api.ErrArg}, {-1, 5, nil, api.ErrArg}, {5, math.MinInt, nil, api.ErrArg}, {math.MaxInt, 5, nil, api.ErrArg},
		{5, 5, slices.Repeat([]points{good()}, 17), api.ErrArg}, {5, 5, slices.Repeat([]points{dented()}, 17), api.ErrArg}, {5, 5, make([]points, 100000), api.ErrArg}, {0, 5, []points{dented()}, api.ErrArg}, {5, 101, []points{crossed()}, api.ErrArg},
		{5, 5, []points{dented(), invalid()}, api.ErrForm}, {5, 5, []points{invalid(), dented()}, api.ErrArg}, {5, 5, []points{good(), good(), crossed(), nil}, api.ErrForm}, {5, 5, []points{good(), nil, crossed()}, api.ErrArg},
		{5, 5, []points{nil}, api.ErrArg}, {5, 5, slices.Repeat([]points{dented()}, 16), api.ErrForm},
		// What has no room is checked, too.
		{1, 1, []points{good(), dented()}, api.ErrForm}, {1, 1, append(slices.Repeat([]points{good()}, 15), invalid()), api.ErrArg},
	} {
		l, e := shape.Nest(c.w, c.h, c.shapes)
		expectError(t, "Nest", []any{l}, e, c.want)
	}
}

// R1: whatever the arguments are, there is a result.
func TestOddArguments(t *testing.T) {
	odd := append(far(), 0, 1, -1, 2, 3, 5, 10000, -10000)
	r := rand.New(rand.NewSource(55))
	number := func() int { return odd[len(odd)-1-r.Intn([]int{6, 8, len(odd)}[r.Intn(3)])] }
	some := func() points {
		out := make(points, r.Intn(9))
		for i := range out {
			out[i] = at(number(), number())
		}
		return out
	}
	for range 30000 {
		p, q := some(), some()
		for _, c := range calls() {
			c.do(p)
		}
		shape.Hull(p)
		shape.Where(p, at(number(), number()))
		shape.Sum(p, q)
		shape.Apart(p, q, at(number(), number()))
		triangles := make([][3]int, r.Intn(8))
		for i := range triangles {
			triangles[i] = [3]int{number(), number(), number()}
		}
		shape.Shows(p, triangles)
		shape.Nest(number(), number(), []points{p, q})
	}
}

// R4: nil and empty slices are the same.
func TestNilAndEmpty(t *testing.T) {
	for _, c := range calls() {
		x, e := c.do(nil)
		y, f := c.do(points{})
		if e != f || !reflect.DeepEqual(x, y) {
			t.Errorf("%s: %v, %d of nil and %v, %d of an empty slice", c.name, x, e, y, f)
		}
	}
	expectNest(t, 4, 4, nil, nil)
	expectNest(t, 4, 4, []points{}, []api.Placed{})
	expectShows(t, good(), [][3]int{}, false)
}

// R5: results are new memory, and arguments are neither changed nor retained;
// R6: the same arguments have the same results, whatever was done with earlier
// ones, and whatever is behind the elements.
func TestMemory(t *testing.T) {
	r := rand.New(rand.NewSource(56))
	behind := at(-99, 99)
	roomy := func(p points) points { return append(slices.Clone(p), behind)[:len(p)] }
	all := append(calls(), call{"Hull", anyPolygon, func(p points) ([]any, api.Errno) { l, e := shape.Hull(p); return []any{l}, e }})
	for range 300 {
		p := someConvex(r, between(r, 3, 32), 50)
		if r.Intn(3) == 0 {
			p = someSimple(r, between(r, 3, 20), 50)
		}
		given := roomy(p)
		for _, c := range all {
			want, e := c.do(slices.Clone(p))
			got, f := c.do(given)
			if e != f || !reflect.DeepEqual(got, want) {
				t.Fatalf("%s(%v): %v, %d, and then %v, %d", c.name, p, want, e, got, f)
			}
			spoil(got)
			if again, _ := c.do(given); !reflect.DeepEqual(again, want) {
				t.Fatalf("%s(%v): %v, and then %v", c.name, p, want, again)
			}
			if !slices.Equal(given[:len(p)+1], append(slices.Clone(p), behind)) {
				t.Fatalf("%s changes its argument: %v, %v", c.name, p, given[:len(p)+1])
			}
		}
	}
	shapes := []points{good(), poly("0 0, 1 0, 1 1, 0 1"), good()}[:2]
	shape.Nest(5, 5, shapes)
	triangles := [][3]int{{0, 1, 2}, {0, 2, 1}, {7, 7, 7}}[:2]
	shape.Shows(poly("0 0, 2 0, 2 2, 0 2"), triangles)
	if !reflect.DeepEqual(shapes[:3], []points{good(), poly("0 0, 1 0, 1 1, 0 1"), good()}) || !slices.Equal(triangles[:3], [][3]int{{0, 1, 2}, {0, 2, 1}, {7, 7, 7}}) {
		t.Errorf("%v, %v", shapes[:3], triangles[:3])
	}
}

func spoil(results []any) {
	for _, x := range results {
		switch v := x.(type) {
		case points:
			for i := range v[:cap(v)] {
				v[:cap(v)][i] = at(-77, -77)
			}
		case [][3]int:
			for i := range v[:cap(v)] {
				v[:cap(v)][i] = [3]int{-77}
			}
		case []api.Placed:
			for i := range v[:cap(v)] {
				v[:cap(v)][i] = api.Placed{Shape: -77}
			}
		}
	}
}
