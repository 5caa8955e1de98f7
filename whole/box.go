package whole

import (
	"slices"
	"strconv"

	"cracknel/api"
	"cracknel/number"
)

// A box is all integer points that are nowhere below low and nowhere above high.
// It is not changed, so that boxes may share memory.
type box struct {
	low, high []int
}

func isBox(low, high []int, variables int) bool {
	if len(low) != variables || len(high) != variables {
		return false
	}
	for i := range low {
		if low[i] < 0 || low[i] > high[i] || high[i] > api.MaxBox {
			return false
		}
	}
	return true
}

// hasMore reports whether a box has more points than that.
func (b box) hasMore(points int) bool {
	// One factor more is no overflow, as long as there are no more than those.
	product := 1
	for i := range b.low {
		product *= b.high[i] - b.low[i] + 1
		if product > points {
			return true
		}
	}
	return false
}

// parts returns the part of a box in which a variable is at most at, and the one
// in which it is above.
func (b box) parts(variable, at int) (box, box) {
	low, high := slices.Clone(b.low), slices.Clone(b.high)
	low[variable], high[variable] = at+1, at
	return box{b.low, high}, box{low, b.high}
}

// widest returns the variable that has the most values.
func (b box) widest() int {
	found := 0
	for i := range b.low {
		if b.high[i]-b.low[i] > b.high[found]-b.low[found] {
			found = i
		}
	}
	return found
}

// extreme returns the greatest (direction 1) or the least (-1) sum of
// coefficients times the elements of a point of the box.
func (b box) extreme(coef []number.Integer, direction int) number.Integer {
	var out number.Integer
	for i, c := range coef {
		at := b.low[i]
		if c.Sign() == direction {
			at = b.high[i]
		}
		out = out.Plus(c.Times(number.Of(at)))
	}
	return out
}

// sides returns the box as rows, at most two for each variable.
func (b box) sides() []api.Row {
	var out []api.Row
	for i, low := range b.low {
		coef := slices.Repeat([]api.Num{"0"}, len(b.low))
		coef[i] = "1"
		if low == b.high[i] {
			out = append(out, api.Row{Coef: coef, Kind: api.Equal, Right: num(low)})
			continue
		}
		out = append(out, api.Row{Coef: coef, Kind: api.AtMost, Right: num(b.high[i])})
		if low > 0 {
			out = append(out, api.Row{Coef: coef, Kind: api.AtLeast, Right: num(low)})
		}
	}
	return out
}

func num(n int) api.Num { return api.Num(strconv.Itoa(n)) }
