package tile_test

import (
	"math/rand"
	"reflect"
	"testing"

	"cracknel/api"
	"cracknel/tile"
)

func expectWays(t *testing.T, c api.Cutter, want ...points) {
	t.Helper()
	if got, e := tile.Ways(c); !reflect.DeepEqual(got, want) || e != api.OK {
		t.Errorf("Ways(%v) = %v, error %d, want %v", c, got, e, want)
	}
}

func lists(texts ...string) []points {
	var out []points
	for _, text := range texts {
		out = append(out, list(text))
	}
	return out
}

// A cutter of one cell has one orientation, wherever it is.
func TestWaysOfOne(t *testing.T) {
	for _, kind := range []string{"plain", "turn", "flip", "both"} {
		for _, x := range spots(6, 6) {
			expectWays(t, api.Cutter{Cells: points{x}, Turn: kind != "plain", Flip: kind == "both"}, list("0 0"))
		}
		expectWays(t, cutter(kind, "3 5"), list("0 0"))
	}
}

func TestWaysOfTwo(t *testing.T) {
	flat, tall := "0 0, 1 0", "0 0, 0 1"
	for _, text := range []string{"0 0, 1 0", "1 0, 0 0", "4 5, 5 5"} {
		expectWays(t, cutter("plain", text), lists(flat)...)
		expectWays(t, cutter("flip", text), lists(flat)...)
		expectWays(t, cutter("turn", text), lists(flat, tall)...)
		expectWays(t, cutter("both", text), lists(flat, tall)...)
	}
	expectWays(t, cutter("turn", "2 3, 2 2"), lists(tall, flat)...)
	// Cells that are not neighbours, as far apart as they can be.
	expectWays(t, cutter("both", "0 0, 5 5"), lists("0 0, 5 5", "0 0, -5 5")...)
	expectWays(t, cutter("both", "0 0, 5 0"), lists("0 0, 5 0", "0 0, 0 5")...)
	expectWays(t, cutter("both", "0 1, 2 0"), lists("0 0, -2 1", "0 0, 1 2", "0 0, 2 1", "0 0, -1 2")...)
	expectWays(t, cutter("flip", "0 1, 2 0"), lists("0 0, -2 1", "0 0, 2 1")...)
	expectWays(t, cutter("turn", "0 1, 2 0"), lists("0 0, -2 1", "0 0, 1 2")...)
}

// The order of the orientations, with those left out that are as earlier ones.
func TestWaysInOrder(t *testing.T) {
	small := "0 0, 1 0, 0 1" // a corner
	expectWays(t, cutter("plain", small), lists("0 0, 1 0, 0 1")...)
	expectWays(t, cutter("turn", small), lists("0 0, 1 0, 0 1", "0 0, 1 0, 1 1", "0 0, -1 1, 0 1", "0 0, 0 1, 1 1")...)
	expectWays(t, cutter("flip", small), lists("0 0, 1 0, 0 1", "0 0, 1 0, 1 1")...)
	expectWays(t, cutter("both", small), lists("0 0, 1 0, 0 1", "0 0, 1 0, 1 1", "0 0, -1 1, 0 1", "0 0, 0 1, 1 1")...)
	hook := "0 0, 0 1, 0 2, 1 2"
	turned := lists("0 0, 0 1, 0 2, 1 2", "0 0, 1 0, 2 0, 0 1", "0 0, 1 0, 1 1, 1 2", "0 0, -2 1, -1 1, 0 1")
	flipped := lists("0 0, 0 1, -1 2, 0 2", "0 0, 0 1, 1 1, 2 1", "0 0, 1 0, 0 1, 0 2", "0 0, 1 0, 2 0, 2 1")
	expectWays(t, cutter("plain", hook), turned[0])
	expectWays(t, cutter("turn", hook), turned...)
	expectWays(t, cutter("flip", hook), turned[0], flipped[0])
	expectWays(t, cutter("both", hook), append(turned, flipped...)...)
	snake := "0 0, 1 0, 1 1, 2 1"
	expectWays(t, cutter("turn", snake), lists("0 0, 1 0, 1 1, 2 1", "0 0, -1 1, 0 1, -1 2")...)
	expectWays(t, cutter("flip", snake), lists("0 0, 1 0, 1 1, 2 1", "0 0, 1 0, -1 1, 0 1")...)
	expectWays(t, cutter("both", snake), lists("0 0, 1 0, 1 1, 2 1", "0 0, -1 1, 0 1, -1 2", "0 0, 1 0, -1 1, 0 1", "0 0, 0 1, 1 1, 1 2")...)
	expectWays(t, cutter("both", "0 0, 1 0, 0 1, 1 1"), list("0 0, 1 0, 0 1, 1 1"))
	expectWays(t, cutter("both", "0 0, 5 0, 0 5, 5 5"), list("0 0, 5 0, 0 5, 5 5"))
}

func TestWaysOfMany(t *testing.T) {
	r := rand.New(rand.NewSource(1))
	counts := map[int]int{}
	for range 4000 {
		c := someCutter(r, between(r, 1, 6), between(r, 1, 6), between(r, 1, 6))
		expectWays(t, c, ways(c)...)
		counts[len(ways(c))]++
	}
	for _, n := range []int{1, 2, 4, 8} {
		if counts[n] == 0 {
			t.Errorf("no cutter has %d orientations", n)
		}
	}
}

// The order in which a cutter has its cells does not matter, nor where they are.
func TestWaysOfMoved(t *testing.T) {
	r := rand.New(rand.NewSource(2))
	for range 500 {
		c := someCutter(r, between(r, 1, 6), 4, 4)
		left, top := 5, 5
		for _, x := range c.Cells {
			left, top = min(left, x.X), min(top, x.Y)
		}
		moved := api.Cutter{Turn: c.Turn, Flip: c.Flip}
		for i := range c.Cells {
			x := c.Cells[len(c.Cells)-1-i]
			moved.Cells = append(moved.Cells, at(x.X-left, x.Y-top))
		}
		got, e := tile.Ways(c)
		other, f := tile.Ways(moved)
		if e != api.OK || f != api.OK || !reflect.DeepEqual(got, other) {
			t.Errorf("Ways of %v: %v, %d, and moved %v, %d", c, got, e, other, f)
		}
	}
}
