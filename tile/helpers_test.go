package tile_test

import (
	"math/big"
	"math/rand"
	"slices"
	"strconv"
	"strings"
	"testing"

	"cracknel/api"
	"cracknel/tile"
)

type (
	point  = api.Point
	points = []api.Point
	laid   = api.Laid
	tiling = []api.Laid
)

func at(x, y int) point { return point{X: x, Y: y} }

// list reads points: "0 0, 1 0".
func list(text string) points {
	var out points
	for _, part := range strings.Split(text, ",") {
		words := strings.Fields(part)
		if len(words) == 0 {
			continue
		}
		x, errX := strconv.Atoi(words[0])
		y, errY := strconv.Atoi(words[1])
		if errX != nil || errY != nil || len(words) != 2 {
			panic(text)
		}
		out = append(out, at(x, y))
	}
	return out
}

// cutter reads a cutter: its kind is "plain", "turn", "flip" or "both".
func cutter(kind, text string) api.Cutter {
	return api.Cutter{Cells: list(text), Turn: kind == "turn" || kind == "both", Flip: kind == "flip" || kind == "both"}
}

func cutters(all ...api.Cutter) []api.Cutter { return all }

func sheet(w, h int, holes string) api.Sheet { return api.Sheet{W: w, H: h, Holes: list(holes)} }

func single() api.Cutter { return cutter("plain", "0 0") }
func domino() api.Cutter { return cutter("turn", "0 0, 1 0") }

// spots returns all cells of a sheet.
func spots(w, h int) points {
	var out points
	for y := range h {
		for x := range w {
			out = append(out, at(x, y))
		}
	}
	return out
}

func byRow(a, b point) int {
	if a.Y != b.Y {
		return a.Y - b.Y
	}
	return a.X - b.X
}

// A motion takes (x, y) to (a·x + b·y, c·x + d·y).
type motion [4]int

func (m motion) of(x point) point { return at(m[0]*x.X+m[1]*x.Y, m[2]*x.X+m[3]*x.Y) }

// motions returns the motions of a cutter in the chapter's order, each one
// written out.
func motions(c api.Cutter) []motion {
	out := []motion{{1, 0, 0, 1}}
	if c.Turn {
		out = append(out, motion{0, -1, 1, 0}, motion{-1, 0, 0, -1}, motion{0, 1, -1, 0})
	}
	if c.Flip {
		out = append(out, motion{-1, 0, 0, 1})
	}
	if c.Flip && c.Turn {
		out = append(out, motion{0, -1, -1, 0}, motion{1, 0, 0, -1}, motion{0, 1, 1, 0})
	}
	return out
}

// ways returns the orientations of a cutter: those whose texts are new.
func ways(c api.Cutter) []points {
	var out []points
	seen := map[string]bool{}
	for _, m := range motions(c) {
		var way points
		for _, x := range c.Cells {
			way = append(way, m.of(x))
		}
		slices.SortFunc(way, byRow)
		first, text := way[0], ""
		for i, x := range way {
			way[i] = at(x.X-first.X, x.Y-first.Y)
			text += strconv.Itoa(way[i].X) + " " + strconv.Itoa(way[i].Y) + ", "
		}
		if !seen[text] {
			seen[text] = true
			out = append(out, way)
		}
	}
	return out
}

// free returns the free cells of a sheet in order.
func free(s api.Sheet) points {
	return slices.DeleteFunc(spots(s.W, s.H), func(x point) bool { return slices.Contains(s.Holes, x) })
}

// covers returns the cells of a way at a cell, or nil if they are not all in a
// set.
func covers(set map[point]bool, way points, by point) points {
	var out points
	for _, x := range way {
		y := at(x.X+by.X, x.Y+by.Y)
		if !set[y] {
			return nil
		}
		out = append(out, y)
	}
	return out
}

func setOf(l points) map[point]bool {
	out := map[point]bool{}
	for _, x := range l {
		out[x] = true
	}
	return out
}

// all returns all tilings in their order, by trying: at most that many.
func all(s api.Sheet, cs []api.Cutter, most int) []tiling {
	var shapes [][]points
	for _, c := range cs {
		shapes = append(shapes, ways(c))
	}
	cells := free(s)
	left := setOf(cells)
	var out []tiling
	var try func(i int, begun tiling)
	try = func(i int, begun tiling) {
		for i < len(cells) && !left[cells[i]] {
			i++
		}
		switch {
		case len(out) == most:
		case i == len(cells):
			out = append(out, slices.Clone(begun))
		default:
			for c := range shapes {
				for w, way := range shapes[c] {
					covered := covers(left, way, cells[i])
					for _, x := range covered {
						left[x] = false
					}
					if covered != nil {
						try(i+1, append(begun, laid{Cutter: c, Way: w, At: cells[i]}))
					}
					for _, x := range covered {
						left[x] = true
					}
				}
			}
		}
	}
	try(0, nil)
	return out
}

// masks returns what each laid cutter covers, as bits of the cells of a sheet of
// six columns.
func masks(s api.Sheet, cs []api.Cutter) []uint64 {
	set := setOf(free(s))
	var out []uint64
	for _, c := range cs {
		for _, way := range ways(c) {
			for x := range set {
				covered := covers(set, way, x)
				if covered != nil {
					out = append(out, bitsOf(covered))
				}
			}
		}
	}
	return out
}

func bitsOf(l points) uint64 {
	var out uint64
	for _, x := range l {
		out |= 1 << (6*x.Y + x.X)
	}
	return out
}

// number counts tilings from the last cell of a sheet to the first one.
func number(s api.Sheet, cs []api.Cutter) *big.Int {
	ending := map[int][]uint64{}
	for _, m := range masks(s, cs) {
		last := 63
		for m>>last == 0 {
			last--
		}
		ending[last] = append(ending[last], m)
	}
	known := map[uint64]*big.Int{0: big.NewInt(1)}
	var count func(left uint64) *big.Int
	count = func(left uint64) *big.Int {
		if n := known[left]; n != nil {
			return n
		}
		last := 63
		for left>>last == 0 {
			last--
		}
		sum := new(big.Int)
		for _, m := range ending[last] {
			if m&^left == 0 {
				sum.Add(sum, count(left&^m))
			}
		}
		known[left] = sum
		return sum
	}
	return count(bitsOf(free(s)))
}

// most returns how many cells can be covered: of what is left, either the lowest
// cell is covered, or it is wasted.
func most(s api.Sheet, cs []api.Cutter) int {
	pieces := masks(s, cs)
	known := map[uint64]int{0: 0}
	var best func(left uint64) int
	best = func(left uint64) int {
		if n, ok := known[left]; ok {
			return n
		}
		lowest := left & -left
		out := best(left &^ lowest)
		for _, m := range pieces {
			if m&lowest != 0 && m&^left == 0 {
				size := 0
				for rest := m; rest > 0; rest &= rest - 1 {
					size++
				}
				out = max(out, size+best(left&^m))
			}
		}
		known[left] = out
		return out
	}
	return best(bitsOf(free(s)))
}

// isTiling follows the chapter's words.
func isTiling(s api.Sheet, cs []api.Cutter, l tiling) bool {
	times := map[point]int{}
	for i, x := range l {
		if x.Cutter < 0 || x.Cutter >= len(cs) || x.Way < 0 || x.Way >= len(ways(cs[x.Cutter])) || i > 0 && byRow(l[i-1].At, x.At) > 0 {
			return false
		}
		for _, c := range ways(cs[x.Cutter])[x.Way] {
			times[at(x.At.X+c.X, x.At.Y+c.Y)]++
		}
	}
	cells := free(s)
	for _, x := range cells {
		if times[x] != 1 {
			return false
		}
	}
	return len(times) == len(cells)
}

func between(r *rand.Rand, low, high int) int { return low + r.Intn(high-low+1) }

// someCells returns that many different cells within w times h.
func someCells(r *rand.Rand, count, w, h int) points {
	cells := spots(w, h)
	r.Shuffle(len(cells), func(i, j int) { cells[i], cells[j] = cells[j], cells[i] })
	return cells[:min(count, len(cells))]
}

// someCutter returns a cutter within w times h, anywhere among the cells that it
// may have.
func someCutter(r *rand.Rand, size, w, h int) api.Cutter {
	out := api.Cutter{Cells: someCells(r, size, w, h), Turn: r.Intn(2) == 0, Flip: r.Intn(2) == 0}
	byX, byY := r.Intn(7-w), r.Intn(7-h)
	for i, x := range out.Cells {
		out.Cells[i] = at(x.X+byX, x.Y+byY)
	}
	return out
}

// someCutters returns cutters that are small enough for a sheet.
func someCutters(r *rand.Rand, s api.Sheet, count, size int) []api.Cutter {
	var out []api.Cutter
	for range count {
		out = append(out, someCutter(r, between(r, 1, size), min(s.W, 3), min(s.H, 3)))
	}
	return out
}

func someSheet(r *rand.Rand, w, h, holes int) api.Sheet {
	return api.Sheet{W: w, H: h, Holes: someCells(r, holes, w, h)}
}

func expectCount(t *testing.T, s api.Sheet, cs []api.Cutter, want string) {
	t.Helper()
	if n, e := tile.Count(s, cs); n != api.Num(want) || e != api.OK {
		t.Errorf("Count(%v, %v) = %q, error %d, want %s", s, cs, n, e, want)
	}
}

func expectMost(t *testing.T, s api.Sheet, cs []api.Cutter, want int) {
	t.Helper()
	if n, e := tile.Most(s, cs); n != want || e != api.OK {
		t.Errorf("Most(%v, %v) = %d, error %d, want %d", s, cs, n, e, want)
	}
}

func expectAt(t *testing.T, s api.Sheet, cs []api.Cutter, rank string, want tiling) {
	t.Helper()
	if l, e := tile.At(s, cs, api.Num(rank)); !slices.Equal(l, want) || e != api.OK {
		t.Errorf("At(%v, %v, %s) = %v, error %d, want %v", s, cs, rank, l, e, want)
	}
}

func expectRank(t *testing.T, s api.Sheet, cs []api.Cutter, l tiling, want string) {
	t.Helper()
	if n, e := tile.Rank(s, cs, l); n != api.Num(want) || e != api.OK {
		t.Errorf("Rank(%v, %v, %v) = %q, error %d, want %s", s, cs, l, n, e, want)
	}
}

func expectIs(t *testing.T, s api.Sheet, cs []api.Cutter, l tiling, want bool) {
	t.Helper()
	if is, e := tile.Is(s, cs, l); is != want || e != api.OK {
		t.Errorf("Is(%v, %v, %v) = %t, error %d", s, cs, l, is, e)
	}
}

func expectBalance(t *testing.T, s api.Sheet, cs []api.Cutter, weights []int, want bool) {
	t.Helper()
	if is, e := tile.Balance(s, cs, weights); is != want || e != api.OK {
		t.Errorf("Balance(%v, %v, %v) = %t, error %d", s, cs, weights, is, e)
	}
}
