package linear_test

import (
	"math/rand"
	"slices"
	"testing"

	"cracknel/linear"
	"cracknel/number"
)

// someTableau returns a random tableau of that many rows, and values of all
// variables, those outside first, with constants that are worth 1 and 1000.
func someTableau(r *rand.Rand, rows, variables int) (linear.Tableau, []number.Integer) {
	t := linear.NewTableau(2, variables)
	var values []number.Integer
	for range variables {
		values = append(values, number.Of(r.Intn(2001)-1000))
	}
	for row := range rows {
		coef := make([]number.Integer, variables)
		for i := range coef {
			coef[i] = number.Of(r.Intn(7) - 3)
		}
		cells := t.AddRow(variables+row, coef)
		cells[1], cells[2] = number.Of(r.Intn(9)-4), number.Of(r.Intn(9)-4)
		values = append(values, number.Dot(cells[1:], worth(t, values)))
	}
	return t, values
}

// worth returns what the cells behind the scale are multiplied by.
func worth(t linear.Tableau, values []number.Integer) []number.Integer {
	out := of(1, 1000)
	for _, variable := range t.Outside {
		out = append(out, values[variable])
	}
	return out
}

// expectTrue checks that the rows are true of the values of all variables, each of
// which is once in the basis or outside, and that all scales are above 0.
func expectTrue(t *testing.T, tableau linear.Tableau, values []number.Integer) {
	t.Helper()
	for row, cells := range tableau.Cells {
		left := cells[linear.ScaleColumn].Times(values[tableau.Basis[row]])
		right := number.Dot(cells[1:], worth(tableau, values))
		if left.Compare(right) != 0 || cells[linear.ScaleColumn].Sign() <= 0 {
			t.Fatalf("row %d of %v is not true of %v", row, tableau, values)
		}
	}
	all := slices.Concat(tableau.Basis, tableau.Outside)
	slices.Sort(all)
	for i, variable := range all {
		if variable != i || len(all) != len(values) {
			t.Fatalf("variables %v", all)
		}
	}
}

// What rows say stays true, whatever is exchanged.
func TestPivots(t *testing.T) {
	r := rand.New(rand.NewSource(1))
	for range 200 {
		rows, variables := 1+r.Intn(6), 1+r.Intn(6)
		tableau, values := someTableau(r, rows, variables)
		expectTrue(t, tableau, values)
		for range 30 {
			row, i := r.Intn(rows), r.Intn(variables)
			if tableau.Cells[row][3+i].IsZero() {
				continue
			}
			in, out := tableau.Outside[i], tableau.Basis[row]
			tableau.Pivot(row, 3+i)
			expectTrue(t, tableau, values)
			if tableau.Basis[row] != in || tableau.Outside[i] != out {
				t.Fatalf("variables %d and %d are not exchanged: %v", in, out, tableau)
			}
		}
	}
}

// Cells stay as short as determinants, however many steps there are: those of 6
// numbers up to 3 and of constants up to 4 are below 3^6·6^3·4.
func TestLengthOfCells(t *testing.T) {
	r := rand.New(rand.NewSource(2))
	for range 20 {
		tableau, _ := someTableau(r, 6, 6)
		for range 2000 {
			row, i := r.Intn(6), r.Intn(6)
			if !tableau.Cells[row][3+i].IsZero() {
				tableau.Pivot(row, 3+i)
			}
		}
		for _, x := range slices.Concat(tableau.Cells...) {
			if x.Size().Compare(number.Of(729*216*4)) > 0 {
				t.Fatalf("%v has long cells", tableau)
			}
		}
	}
}
