package works_test

import (
	"strconv"
	"strings"
	"testing"

	"cracknel/api"
	"cracknel/works"
)

func TestSheets(t *testing.T) {
	play(t, works.New(), `
> sheet 2 3
> tile
! 1
> tiling 0
! 1
> cutter turn 0 0 1 0
> tile
ways 3
> tiling 0
laid 0 0 0 0
laid 0 0 0 1
laid 0 0 0 2
> tiling 2
laid 0 1 0 0
laid 0 1 1 0
laid 0 0 0 2
> tiling 3
! 6
> tiling -1
! 6
> tiling 1/2
! 2
> cutter plain 0 0
> tile
ways 22
> tiling 21
laid 1 0 0 0
laid 1 0 1 0
laid 1 0 0 1
laid 1 0 1 1
laid 1 0 0 2
laid 1 0 1 2
> sheet 1 1
> tile
ways 1
> tiling 0
laid 1 0 0 0
> hole 0 0
> tile
ways 1
> tiling 0
> tiling 1
! 6
> hole 0 0
! 1
> sheet 1 1
> hole 0 0
> clear sheet
> tile
! 7
> tiling 0
! 7
> tiling 1/2
! 7
> tiling 2/4
! 2
> tiling x
! 2
> hole 0 0
! 7
> hole x 0
! 2
> sheet 1 1
> tile
! 1
`)
}

func TestSidesOfSheet(t *testing.T) {
	w := prepared(t, "sheet 2 1", "cutter plain 0 0")
	for _, size := range []string{"0 1", "1 0", "-1 1", "1 -1", "7 1", "1 7", "0 0", "7 7", "999999999999 1", "1 999999999999"} {
		expect(t, w, "sheet "+size, "! 1\n")
		expect(t, w, "tiling 0", "laid 0 0 0 0\nlaid 0 0 1 0\n")
		expect(t, works.New(), "sheet "+size, "! 1\n")
	}
	for x := range api.MaxSide {
		for y := range api.MaxSide {
			do(t, w, "sheet "+strconv.Itoa(x+1)+" "+strconv.Itoa(y+1))
			expect(t, w, "tile", "ways 1\n")
			if got := w.Line("tiling 0"); strings.Count(got, "\n") != (x+1)*(y+1) {
				t.Errorf("a sheet of %d times %d: %q", x+1, y+1, got)
			}
		}
	}
}

func TestHoles(t *testing.T) {
	play(t, works.New(), `
> hole 0 0
! 7
> hole 9 9
! 7
> sheet 3 2
> cutter turn 0 0 1 0
> hole 3 0
! 1
> hole 0 2
! 1
> hole -1 0
! 1
> hole 0 -1
! 1
> hole 2 1
> hole 2 1
! 1
> tile
ways 0
> tiling 0
! 6
> hole 0 0
> hole 0 0
! 1
> tile
ways 1
> tiling 0
laid 0 0 1 0
laid 0 0 0 1
> try hole 1 0
> tile
ways 1
> sheet 3 2
> tile
ways 3
> hole 2 1
> hole 0 1
> tile
ways 0
> hole 1 0
> hole 1 1
> hole 0 0
> hole 2 0
> tile
ways 1
> tiling 0
> hole 2 0
! 1
`)
}

// A cutter may be turned, or flipped, or both.
func TestWaysOfCutters(t *testing.T) {
	ways := map[string]int{"plain": 1, "turn": 4, "flip": 2, "both": 8}
	for word, want := range ways {
		// Seven orientations of an L of four cells and more are laid by holes that
		// leave just its cells.
		found := 0
		for turn := range 4 {
			for _, isFlipped := range []bool{false, true} {
				w := prepared(t, "sheet 4 4", "cutter "+word+" 0 0 1 0 2 0 0 1")
				for x := range 4 {
					for y := range 4 {
						if !isPartOfL(x, y, turn, isFlipped) {
							do(t, w, "hole "+strconv.Itoa(x)+" "+strconv.Itoa(y))
						}
					}
				}
				if w.Line("tile") == "ways 1\n" {
					found++
				}
			}
		}
		if found != want {
			t.Errorf("cutter %s: %d orientations, not %d", word, found, want)
		}
	}
}

// isPartOfL reports whether a cell is one of an L, turned and flipped, in the corner
// of a sheet of 4 times 4.
func isPartOfL(x, y, turn int, isFlipped bool) bool {
	for range turn {
		x, y = y, 3-x
	}
	if isFlipped {
		x = 3 - x
	}
	return y == 0 && x < 3 || x == 0 && y == 1
}

// Cutters are not looked at before they are used.
func TestCutters(t *testing.T) {
	w := prepared(t, "sheet 2 2")
	for _, cells := range []string{"0 0 0 0", "6 0", "0 -1", "0 0 1 0 2 0 3 0 4 0 5 0 0 1", "999999999999 0", "-999999999999 0"} {
		do(t, w, "cutter plain "+cells)
		expect(t, w, "tile", "! 1\n")
		expect(t, w, "tiling 0", "! 1\n")
		do(t, w, "clear sheet", "sheet 2 2")
	}
	for i := range api.MaxCutters {
		do(t, w, "cutter plain 0 0 "+strconv.Itoa(i%5+1)+" 0")
	}
	for _, word := range []string{"plain", "turn", "flip", "both"} {
		expect(t, w, "cutter "+word+" 0 0", "! 8\n")
		expect(t, w, "cutter "+word+" 9 9", "! 8\n")
	}
	expect(t, w, "tile", "ways 4\n") // two of the cutters are dominoes
	do(t, w, "sheet 1 2")
	expect(t, w, "tile", "ways 0\n")
	expect(t, w, "cutter turn 0 0 1 0", "! 8\n")
	do(t, w, "clear sheet", "cutter turn 0 0 1 0", "sheet 1 2")
	expect(t, w, "tile", "ways 1\n")
}

// The cutters stay if there is another sheet, and may come before it.
func TestCuttersBeforeSheets(t *testing.T) {
	w := prepared(t, "cutter plain 3 3 4 3", "cutter flip 0 1 1 1 1 0")
	expect(t, w, "tile", "! 7\n")
	do(t, w, "sheet 2 1")
	expect(t, w, "tiling 0", "laid 0 0 0 0\n")
	do(t, w, "sheet 2 2", "hole 0 0")
	expect(t, w, "tiling 0", "laid 1 0 1 0\n")
	do(t, w, "sheet 2 2", "hole 1 0")
	expect(t, w, "tiling 0", "laid 1 1 0 0\n")
	do(t, w, "sheet 6 6")
	expect(t, w, "try tile", w.Line("tile"))
}
