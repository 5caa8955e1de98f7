package lattice_test

import (
	"math/rand"
	"slices"
	"testing"

	"cracknel/lattice"
	"cracknel/number"
)

func of(n ...int) lattice.Vector {
	out := make(lattice.Vector, len(n))
	for i, x := range n {
		out[i] = number.Of(x)
	}
	return out
}

func rows(list ...[]int) []lattice.Vector {
	var out []lattice.Vector
	for _, row := range list {
		out = append(out, of(row...))
	}
	return out
}

func same(a, b lattice.Vector) bool {
	return slices.EqualFunc(a, b, func(x, y number.Integer) bool { return x.Compare(y) == 0 })
}

func sameRows(a, b []lattice.Vector) bool { return slices.EqualFunc(a, b, same) }

func someRows(r *rand.Rand, count, width int) []lattice.Vector {
	var out []lattice.Vector
	for range count {
		row := make([]int, width)
		for i := range row {
			row[i] = r.Intn(9) - 4
		}
		out = append(out, of(row...))
	}
	return out
}

// combination returns a random combination of rows.
func combination(r *rand.Rand, list []lattice.Vector, width int) lattice.Vector {
	out := make(lattice.Vector, width)
	for _, row := range list {
		n := number.Of(r.Intn(7) - 3)
		for i := range out {
			out[i] = out[i].Plus(n.Times(row[i]))
		}
	}
	return out
}

func TestNew(t *testing.T) {
	for _, x := range []struct {
		rows, want []lattice.Vector
		pivots     []int
	}{
		{nil, nil, nil},
		{rows([]int{}), nil, nil},
		{rows([]int{0, 0}), nil, nil},
		{rows([]int{2, 4}, []int{3, 5}), rows([]int{1, 1}, []int{0, 2}), []int{0, 1}},
		{rows([]int{0, -3, 5}), rows([]int{0, 3, -5}), []int{1}},
		{rows([]int{4}, []int{6}, []int{9}), rows([]int{1}), []int{0}},
		{rows([]int{0, 0, 6}, []int{0, 2, 7}, []int{0, 4, 2}), rows([]int{0, 2, 1}, []int{0, 0, 6}), []int{1, 2}},
	} {
		b := lattice.New(x.rows)
		if !sameRows(b.Rows, x.want) || !slices.Equal(b.Pivots, x.pivots) {
			t.Errorf("New(%v) = %v", x.rows, b)
		}
	}
}

// A basis generates its rows and no more, whatever rows it is made of, and these
// stay as they are.
func TestBases(t *testing.T) {
	r := rand.New(rand.NewSource(1))
	for range 3000 {
		width := 1 + r.Intn(5)
		list := someRows(r, r.Intn(7), width)
		kept := slices.Clone(list)
		for i := range kept {
			kept[i] = slices.Clone(kept[i])
		}
		b := lattice.New(list)
		if read, ok := lattice.Read(b.Rows); !ok || !sameRows(read.Rows, b.Rows) || !slices.Equal(read.Pivots, b.Pivots) {
			t.Fatalf("New(%v) = %v is in no normal form", list, b)
		}
		other := slices.Clone(list)
		for range 3 {
			other = append(other, combination(r, list, width))
		}
		r.Shuffle(len(other), func(i, j int) { other[i], other[j] = other[j], other[i] })
		if !sameRows(lattice.New(other).Rows, b.Rows) || !sameRows(list, kept) {
			t.Fatalf("New(%v) = %v, New(%v) = %v", list, b, other, lattice.New(other))
		}
		v := someRows(r, 1, width)[0]
		sum := combination(r, list, width)
		for i := range sum {
			sum[i] = sum[i].Plus(v[i])
		}
		b.Reduce(v)
		b.Reduce(sum)
		for k, column := range b.Pivots {
			if v[column].Sign() < 0 || v[column].Compare(b.Rows[k][column]) >= 0 || !same(v, sum) {
				t.Fatalf("%v reduced by %v, and %v", v, b, sum)
			}
		}
		checkFrom(t, r, b, width)
	}
}

// checkFrom expects of From what begins with zeros, and only that.
func checkFrom(t *testing.T, r *rand.Rand, b lattice.Basis, width int) {
	t.Helper()
	column := r.Intn(width + 1)
	behind := b.From(column)
	if _, ok := lattice.Read(behind.Rows); !ok {
		t.Fatalf("From(%d) of %v = %v", column, b, behind)
	}
	v := combination(r, behind.Rows, width-column)
	whole := append(make(lattice.Vector, column), v...)
	b.Reduce(whole)
	if lattice.Zeros(whole) < width {
		t.Fatalf("From(%d) of %v = %v has %v", column, b, behind, v)
	}
	other := combination(r, b.Rows, width)
	if lattice.Zeros(other) < column {
		return
	}
	behind.Reduce(other[column:])
	if lattice.Zeros(other) < width {
		t.Fatalf("From(%d) of %v = %v leaves %v", column, b, behind, other)
	}
}

func TestRead(t *testing.T) {
	for _, list := range [][]lattice.Vector{
		nil, rows([]int{0}), rows([]int{0}, []int{0}), rows([]int{5, -7}), rows([]int{3, 1, 0}, []int{0, 2, 9}, []int{0, 0, 0}),
	} {
		if _, ok := lattice.Read(list); !ok {
			t.Errorf("Read(%v) is refused", list)
		}
	}
	for _, list := range [][]lattice.Vector{
		rows([]int{0}, []int{1}), rows([]int{-1}), rows([]int{1}, []int{2}), rows([]int{0, 1}, []int{1, 0}), rows([]int{1, 2}, []int{0, 2}), rows([]int{1, -1}, []int{0, 2}), rows([]int{1, 0}, []int{0, -2}), rows([]int{2, 0}, []int{3, 1}),
	} {
		if b, ok := lattice.Read(list); ok {
			t.Errorf("Read(%v) = %v", list, b)
		}
	}
}

func TestZeros(t *testing.T) {
	for want, v := range []lattice.Vector{of(3, 0, 1), of(0, -1, 0), of(0, 0, 7), of(0, 0, 0)} {
		if got := lattice.Zeros(v); got != want {
			t.Errorf("Zeros(%v) = %d", v, got)
		}
	}
	if lattice.Zeros(nil) != 0 {
		t.Error("Zeros of nothing")
	}
}
