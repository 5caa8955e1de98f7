package exact

import (
	"cracknel/api"
	"cracknel/lattice"
)

// Hermite returns the Hermite normal form of a matrix, and a matrix that
// leads to it.
func Hermite(a [][]api.Num) ([][]api.Num, [][]api.Num, api.Errno) {
	m, _, e := readMatrix(a)
	if e != api.OK {
		return nil, nil, e
	}
	// In the columns of the unit matrix the rows say how they were made.
	b := lattice.New(m.withUnits())
	h, u := make(matrix, len(m)), make(matrix, len(m))
	for i, row := range b.Rows {
		h[i], u[i] = row[:m.columns()], row[m.columns():]
	}
	form, e := writeMatrix(h)
	if e != api.OK {
		return nil, nil, e
	}
	steps, e := writeMatrix(u)
	if e != api.OK {
		return nil, nil, e
	}
	return form, steps, api.OK
}

// Reduce returns a vector reduced by a matrix in Hermite normal form.
func Reduce(h [][]api.Num, v []api.Num) ([]api.Num, api.Errno) {
	m, vectors, e := readMatrix(h, v)
	if e != api.OK {
		return nil, e
	}
	b, ok := lattice.Read(m)
	if !ok || len(v) != m.columns() {
		return nil, api.ErrArg
	}
	values, ok := integers(vectors[0])
	if !ok {
		return nil, api.ErrForm
	}
	b.Reduce(values)
	return writeIntegers(values)
}
