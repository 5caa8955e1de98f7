package shape_test

import (
	"math"
	"math/big"
	"math/rand"
	"slices"
	"strconv"
	"strings"
	"testing"

	"cracknel/api"
	"cracknel/shape"
)

type points = []api.Point

// poly reads points: "0 0, 2 0, 2 2".
func poly(text string) points {
	var out points
	for _, part := range strings.Split(text, ",") {
		words := strings.Fields(part)
		if len(words) == 0 {
			continue
		}
		x, errX := strconv.Atoi(words[0])
		y, errY := strconv.Atoi(words[1])
		if errX != nil || errY != nil || len(words) != 2 {
			panic(text)
		}
		out = append(out, api.Point{X: x, Y: y})
	}
	return out
}

func polys(texts ...string) []points {
	var out []points
	for _, text := range texts {
		out = append(out, poly(text))
	}
	return out
}

func at(x, y int) api.Point { return api.Point{X: x, Y: y} }

func between(r *rand.Rand, low, high int) int { return low + r.Intn(high-low+1) }

func somePoint(r *rand.Rand, most int) api.Point {
	return at(between(r, -most, most), between(r, -most, most))
}

func somePoints(r *rand.Rand, count, most int) points {
	out := make(points, count)
	for i := range out {
		out[i] = somePoint(r, most)
	}
	return out
}

func reversed(p points) points {
	out := slices.Clone(p)
	slices.Reverse(out)
	return out
}

// rotated returns a polygon that begins at another corner.
func rotated(p points, by int) points { return append(slices.Clone(p[by:]), p[:by]...) }

func shifted(p points, by api.Point) points {
	var out points
	for _, x := range p {
		out = append(out, at(x.X+by.X, x.Y+by.Y))
	}
	return out
}

func scaled(p points, by int) points {
	var out points
	for _, x := range p {
		out = append(out, at(x.X*by, x.Y*by))
	}
	return out
}

// wedge returns twice the area of a triangle.
func wedge(a, b, c api.Point) int {
	return (b.X-a.X)*(c.Y-a.Y) - (c.X-a.X)*(b.Y-a.Y)
}

// area sums up the triangles between the first point and the edges.
func area(p points) int {
	sum := 0
	for i := 1; i+1 < len(p); i++ {
		sum += wedge(p[0], p[i], p[i+1])
	}
	return sum
}

// common returns the numbers t of the points a + t(b - a) that two edges have in
// common: from the first one to the last one, or false if there are none.
func common(a, b, c, d api.Point) (from, to *big.Rat, isAny bool) {
	dx, dy, ex, ey := b.X-a.X, b.Y-a.Y, d.X-c.X, d.Y-c.Y
	fx, fy := c.X-a.X, c.Y-a.Y
	zero, one := new(big.Rat), big.NewRat(1, 1)
	if den := dx*ey - dy*ex; den != 0 {
		t, u := ratio(fx*ey-fy*ex, den), ratio(fx*dy-fy*dx, den)
		isAny = t.Cmp(zero) >= 0 && t.Cmp(one) <= 0 && u.Cmp(zero) >= 0 && u.Cmp(one) <= 0
		return t, t, isAny
	}
	if dx*fy-dy*fx != 0 {
		return nil, nil, false
	}
	length := dx*dx + dy*dy
	from, to = ratio(dx*fx+dy*fy, length), ratio(dx*(d.X-a.X)+dy*(d.Y-a.Y), length)
	if from.Cmp(to) > 0 {
		from, to = to, from
	}
	if from.Cmp(zero) < 0 {
		from = zero
	}
	if to.Cmp(one) > 0 {
		to = one
	}
	return from, to, from.Cmp(to) <= 0
}

func ratio(num, den int) *big.Rat { return big.NewRat(int64(num), int64(den)) }

// isSimple follows the chapter's words, with all points in common.
func isSimple(p points) bool {
	n := len(p)
	for i := range p {
		if p[i] == p[(i+1)%n] {
			return false
		}
	}
	for i := range p {
		for j := range p {
			if i == j {
				continue
			}
			a, b, c, d := p[i], p[(i+1)%n], p[j], p[(j+1)%n]
			from, to, isAny := common(a, b, c, d)
			switch {
			case j == (i+1)%n && from.Cmp(to) < 0:
				return false
			case j != (i+1)%n && i != (j+1)%n && isAny:
				return false
			}
		}
	}
	return true
}

// steps returns the greatest number that divides both: into how many parts an
// edge is cut by the points with integer coordinates on it.
func steps(dx, dy int) int {
	return int(new(big.Int).GCD(nil, nil, big.NewInt(int64(max(dx, -dx))), big.NewInt(int64(max(dy, -dy)))).Int64())
}

// border returns the points with integer coordinates on the edges.
func border(p points) map[api.Point]bool {
	out := map[api.Point]bool{}
	for i, a := range p {
		b := p[(i+1)%len(p)]
		n := steps(b.X-a.X, b.Y-a.Y)
		for k := range n {
			out[at(a.X+(b.X-a.X)/n*k, a.Y+(b.Y-a.Y)/n*k)] = true
		}
	}
	return out
}

// side adds up the angles at which the edges are seen from a point that is on
// none of them.
func side(p points, x api.Point) int {
	sum := 0.0
	for i, a := range p {
		b := p[(i+1)%len(p)]
		ax, ay, bx, by := float64(a.X-x.X), float64(a.Y-x.Y), float64(b.X-x.X), float64(b.Y-x.Y)
		sum += math.Atan2(ax*by-ay*bx, ax*bx+ay*by)
	}
	if math.Abs(sum) > math.Pi {
		return 1
	}
	return -1
}

// wrapped returns the convex hull in normal form: the pairs of points that have
// all others to their left or between them; nil if there is none.
func wrapped(all points) points {
	next := map[api.Point]api.Point{}
	for _, a := range all {
		for _, b := range all {
			if a != b && isHullEdge(a, b, all) {
				next[a] = b
			}
		}
	}
	first := slices.MinFunc(all, func(a, b api.Point) int {
		if a.Y != b.Y {
			return a.Y - b.Y
		}
		return a.X - b.X
	})
	if len(next) < 3 {
		return nil
	}
	out := points{first}
	for x := next[first]; x != first; x = next[x] {
		out = append(out, x)
	}
	return out
}

func isHullEdge(a, b api.Point, all points) bool {
	for _, x := range all {
		w := wedge(a, b, x)
		isBetween := (x.X-a.X)*(x.X-b.X) <= 0 && (x.Y-a.Y)*(x.Y-b.Y) <= 0
		if w < 0 || w == 0 && !isBetween {
			return false
		}
	}
	return true
}

// sums returns all sums of corners.
func sums(a, b points) points {
	var out points
	for _, x := range a {
		for _, y := range b {
			out = append(out, at(x.X+y.X, x.Y+y.Y))
		}
	}
	return out
}

// A spot is a point with rational coordinates.
type spot struct{ x, y *big.Rat }

func times(a, b *big.Rat) *big.Rat { return new(big.Rat).Mul(a, b) }
func less(a, b *big.Rat) *big.Rat  { return new(big.Rat).Sub(a, b) }

// height returns how far a spot is to the left of a line, times its length.
func height(a, b api.Point, s spot) *big.Rat {
	return less(times(ratio(b.X-a.X, 1), less(s.y, ratio(a.Y, 1))), times(ratio(b.Y-a.Y, 1), less(s.x, ratio(a.X, 1))))
}

// cut returns what of a polygon is to the left of a line.
func cut(p []spot, a, b api.Point) []spot {
	var out []spot
	for i, s := range p {
		next := p[(i+1)%len(p)]
		h, k := height(a, b, s), height(a, b, next)
		if h.Sign() >= 0 {
			out = append(out, s)
		}
		if h.Sign()*k.Sign() < 0 {
			t := new(big.Rat).Quo(h, less(h, k))
			out = append(out, spot{
				new(big.Rat).Add(s.x, times(t, less(next.x, s.x))),
				new(big.Rat).Add(s.y, times(t, less(next.y, s.y))),
			})
		}
	}
	return out
}

// shared returns twice the area that a simple polygon has in common with a convex
// one, by cutting the former along the edges of the latter.
func shared(p, convex points) *big.Rat {
	var rest []spot
	for _, x := range p {
		rest = append(rest, spot{ratio(x.X, 1), ratio(x.Y, 1)})
	}
	if area(convex) < 0 {
		convex = reversed(convex)
	}
	for i, a := range convex {
		rest = cut(rest, a, convex[(i+1)%len(convex)])
	}
	sum := new(big.Rat)
	for i, s := range rest {
		next := rest[(i+1)%len(rest)]
		sum.Add(sum, less(times(s.x, next.y), times(next.x, s.y)))
	}
	return sum.Abs(sum)
}

func overlap(a, b points) bool { return shared(a, b).Sign() > 0 }

// isTriangulation follows the chapter's words, with areas that are cut out.
func isTriangulation(p points, triangles [][3]int) bool {
	sum := 0
	var parts []points
	for _, t := range triangles {
		if t[0] < 0 || t[0] >= t[1] || t[1] >= t[2] || t[2] >= len(p) {
			return false
		}
		part := points{p[t[0]], p[t[1]], p[t[2]]}
		size := max(area(part), -area(part))
		if size == 0 {
			continue
		}
		if shared(p, part).Cmp(ratio(size, 1)) != 0 {
			return false
		}
		for _, other := range parts {
			if overlap(part, other) {
				return false
			}
		}
		parts = append(parts, part)
		sum += size
	}
	return len(triangles) == len(p)-2 && sum == max(area(p), -area(p))
}

// someSimple returns a simple polygon of at most that many corners, by putting
// points into the edges of a smaller one.
func someSimple(r *rand.Rand, corners, most int) points {
	p := somePoints(r, 3, most)
	for !isSimple(p) {
		p = somePoints(r, 3, most)
	}
	for range 3 * corners {
		if len(p) == corners {
			break
		}
		x := somePoint(r, most)
		i := r.Intn(len(p))
		if n := len(p); r.Intn(4) == 0 { // A point on the edge, if there is one.
			x = at((p[i].X+p[(i+1)%n].X)/2, (p[i].Y+p[(i+1)%n].Y)/2)
		}
		if q := slices.Insert(slices.Clone(p), i+1, x); isSimple(q) {
			p = q
		}
	}
	if r.Intn(2) == 0 {
		return reversed(p)
	}
	return p
}

// someConvex returns a convex polygon in normal form.
func someConvex(r *rand.Rand, count, most int) points {
	for {
		if p := wrapped(somePoints(r, count, most)); p != nil {
			return p
		}
	}
}

// round returns a convex polygon in normal form with that many corners, an even
// number: its edges are primitive vectors and their negatives. Directions of
// which as many are left out as skipped says come first.
func round(corners, skipped int) points {
	var edges points
	for x := -9; x <= 9; x++ {
		for y := 0; y <= 9; y++ {
			if steps(x, y) == 1 && (y > 0 || x > 0) {
				edges = append(edges, at(x, y))
			}
		}
	}
	byLength := func(a, b api.Point) int { return a.X*a.X + a.Y*a.Y - b.X*b.X - b.Y*b.Y }
	slices.SortStableFunc(edges, byLength)
	edges = edges[skipped : skipped+corners/2]
	slices.SortFunc(edges, func(a, b api.Point) int { return wedge(at(0, 0), b, a) })
	var out points
	x := at(0, 0)
	for _, way := range []int{1, -1} {
		for _, e := range edges {
			out = append(out, x)
			x = at(x.X+way*e.X, x.Y+way*e.Y)
		}
	}
	return out
}

// comb returns a simple polygon of 4n points with n teeth.
func comb(n, wide, tall int) points {
	var out points
	for i := range n {
		x := 2 * i * wide
		out = append(out, at(x, 1), at(x, tall), at(x+wide, tall), at(x+wide, 1))
	}
	out[0].Y, out[len(out)-1].Y = 0, 0
	return out
}

// spiral returns a simple polygon of 32 points that winds inward.
func spiral() points {
	var outer, inner points
	for i, x := 0, at(0, 0); i < 16; i++ {
		length := 4 * (18 - i)
		outer = append(outer, x)
		step := []api.Point{at(length, 0), at(0, length), at(-length, 0), at(0, -length)}[i%4]
		side := []api.Point{at(1, 1), at(-1, 1), at(-1, -1), at(1, -1)}[i%4]
		inner = append(inner, at(x.X+side.X, x.Y+side.Y))
		x = at(x.X+step.X, x.Y+step.Y)
	}
	return append(outer, reversed(inner)...)
}

// special returns simple polygons with straight corners, horizontal edges, deep
// bays, or extreme coordinates, in both orders of their points.
func special() []points {
	out := polys(
		"0 0, 1 0, 0 1", "0 0, 2 0, 2 2, 0 2", "0 0, 1 0, 2 0, 2 1, 2 2, 1 2, 0 2, 0 1", "0 0, 4 0, 4 4, 2 1, 0 4", "0 0, 1 1, 2 0, 1 3",
		"0 0, 3 0, 3 1, 2 1, 2 2, 3 2, 3 3, 0 3, 0 2, 1 2, 1 1, 0 1", "0 0, 5 0, 5 5, 4 5, 4 1, 1 1, 1 5, 0 5",
		"-10000 -10000, 10000 -10000, 10000 10000, -10000 10000", "-10000 -10000, 10000 9999, 10000 10000", "-10000 -10000, 9999 9998, 10000 10000, 9997 9998",
		"0 0, 6 0, 6 6, 0 6, 0 3, 3 3, 3 2, 0 2", "0 0, 2 1, 4 2, 6 3, 0 9", "0 0, 1 0, 2 0, 3 0, 0 3", "0 0, 0 1, 0 2, 0 3, 0 4, 0 5, 1 0",
	)
	out = append(out, comb(8, 1, 9), comb(5, 2, 3), spiral(), round(32, 0), round(8, 3), scaled(spiral(), 100))
	for _, p := range slices.Clone(out) {
		out = append(out, reversed(p), rotated(p, len(p)/2))
	}
	return out
}

func expectSimple(t *testing.T, p points) {
	t.Helper()
	if is, e := shape.Simple(p); !is || e != api.OK {
		t.Fatalf("Simple(%v) = %t, error %d", p, is, e)
	}
}
