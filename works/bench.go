package works

import (
	"slices"

	"cracknel/api"
	"cracknel/tile"
)

// A bench is a sheet, if there is one, and cutters.
type bench struct {
	hasSheet bool
	sheet    api.Sheet
	cutters  []api.Cutter // their Cells are never changed
}

func (b *bench) clone() bench {
	out := *b
	out.sheet.Holes = slices.Clone(b.sheet.Holes)
	out.cutters = slices.Clone(b.cutters)
	return out
}

func (w *Works) setSheet(words []string) (string, api.Errno) {
	list := numbers(words)
	if slices.Min(list) < 1 || slices.Max(list) > api.MaxSide {
		return "", api.ErrArg
	}
	w.bench.hasSheet = true
	w.bench.sheet = api.Sheet{W: list[0], H: list[1]}
	return "", api.OK
}

func (w *Works) addHole(words []string) (string, api.Errno) {
	if !w.bench.hasSheet {
		return "", api.ErrState
	}
	at := points(words)[0]
	isCell := at.X >= 0 && at.X < w.bench.sheet.W && at.Y >= 0 && at.Y < w.bench.sheet.H
	if !isCell || slices.Contains(w.bench.sheet.Holes, at) {
		return "", api.ErrArg
	}
	w.bench.sheet.Holes = append(w.bench.sheet.Holes, at)
	return "", api.OK
}

// points returns pairs of numbers as points.
func points(words []string) []api.Point {
	list := numbers(words)
	out := make([]api.Point, len(list)/2)
	for i := range out {
		out[i] = api.Point{X: list[2*i], Y: list[2*i+1]}
	}
	return out
}

func (w *Works) addCutter(words []string) (string, api.Errno) {
	c := api.Cutter{Cells: points(words[1:])}
	switch words[0] {
	case "both":
		c.Turn = true
		fallthrough
	case "flip":
		c.Flip = true
	case "turn":
		c.Turn = true
	case "plain":
	default:
		return "", api.ErrForm
	}
	if len(w.bench.cutters) == api.MaxCutters {
		return "", api.ErrFull
	}
	w.bench.cutters = append(w.bench.cutters, c)
	return "", api.OK
}

func (w *Works) countTilings([]string) (string, api.Errno) {
	if !w.bench.hasSheet {
		return "", api.ErrState
	}
	n, e := tile.Count(w.bench.sheet, w.bench.cutters)
	if e != api.OK {
		return "", e
	}
	return value("ways", n), api.OK
}

func (w *Works) showTiling(words []string) (string, api.Errno) {
	if !w.bench.hasSheet {
		return "", api.ErrState
	}
	tiling, e := tile.At(w.bench.sheet, w.bench.cutters, api.Num(words[0]))
	if e != api.OK {
		return "", e
	}
	out := ""
	for _, laid := range tiling {
		out += number("laid", laid.Cutter, laid.Way, laid.At.X, laid.At.Y)
	}
	return out, api.OK
}
