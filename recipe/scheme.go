package recipe

import (
	"cracknel/api"
	"cracknel/lattice"
	"cracknel/number"
)

// scheme returns the type of a definition with these choices, which are short.
func (c choices) scheme() api.Scheme {
	return api.Scheme{Params: c.width - 1, Free: write(c.free.Rows), Fixed: write(c.fixed)}
}

func write(rows []vector) [][]api.Num {
	var out [][]api.Num
	for _, row := range rows {
		var line []api.Num
		for _, x := range row {
			text, _ := number.Whole(x).Text()
			line = append(line, text)
		}
		out = append(out, line)
	}
	return out
}

// readScheme returns the choices of a scheme, or false if it is none. It need not
// be of any recipe: its vectors may be many, and they may not be reduced.
func readScheme(s api.Scheme) (choices, bool) {
	if s.Params < 0 || s.Params > api.MaxParams {
		return choices{}, false
	}
	width := s.Params + 1
	rows, ok := readRows(s.Free, width)
	if !ok {
		return choices{}, false
	}
	// More rows than columns are in no normal form, or there are zero rows.
	free, ok := lattice.Read(rows)
	if !ok || len(free.Rows) < len(rows) {
		return choices{}, false
	}
	fixed, ok := readRows(s.Fixed, width)
	return choices{width, free, fixed}, ok
}

func readRows(rows [][]api.Num, width int) ([]vector, bool) {
	var out []vector
	for _, row := range rows {
		v, ok := readVector(row)
		if !ok || len(v) != width {
			return nil, false
		}
		out = append(out, v)
	}
	return out, true
}

func readVector(row []api.Num) (vector, bool) {
	var out vector
	for _, x := range row {
		value, ok := number.Parse(x)
		if !ok || !value.IsInteger() {
			return nil, false
		}
		out = append(out, value.Num())
	}
	return out, true
}
