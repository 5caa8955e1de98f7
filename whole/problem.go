package whole

import (
	"slices"

	"cracknel/api"
	"cracknel/blend"
	"cracknel/exact"
	"cracknel/linear"
	"cracknel/number"
)

// A problem is a whole program without its box: its Nums, and their values.
type problem struct {
	api.Program
	cost []number.Integer
	rows []linear.Row
}

// read reads a whole program: ErrForm if a Num is not valid, one of its own or
// of some others, and ErrArg if the whole program is not.
func read(p api.Program, low, high []int, others ...api.Num) (problem, box, api.Errno) {
	e := blend.Check(p)
	if e == api.ErrForm || slices.ContainsFunc(others, isNoNum) {
		return problem{}, box{}, api.ErrForm
	}
	isWhole := e == api.OK && len(p.Cost) <= api.MaxWhole && !slices.ContainsFunc(p.Cost, isFraction)
	if !isWhole || !isBox(low, high, len(p.Cost)) {
		return problem{}, box{}, api.ErrArg
	}
	return newProblem(p), box{low, high}, api.OK
}

// newProblem returns a program whose costs are integers as a problem.
func newProblem(p api.Program) problem {
	return problem{p, linear.NewForm(p.Cost, "0").Coef, linear.Rows(p)}
}

func isNoNum(x api.Num) bool { return exact.Check(x) != api.OK }

// isFraction reports whether a valid Num is no integer.
func isFraction(x api.Num) bool { return !number.Value(x).IsInteger() }

// refusal returns multipliers that prove that there is no solution in a box, if
// one row is enough for it, or nil.
func (q problem) refusal(b box) []api.Num {
	for k, r := range q.rows {
		if !r.Allows(1) && b.extreme(r.Coef, -1).Compare(r.Right) > 0 {
			return q.spread([]int{k}, "-1")
		}
		if !r.Allows(-1) && b.extreme(r.Coef, 1).Compare(r.Right) < 0 {
			return q.spread([]int{k}, "1")
		}
	}
	return nil
}

// spread returns multipliers of all rows: those of the chosen ones, and 0.
func (q problem) spread(chosen []int, y ...api.Num) []api.Num {
	out := slices.Repeat([]api.Num{"0"}, len(q.rows))
	for i, k := range chosen {
		out[k] = y[i]
	}
	return out
}

// worst returns the row that x/scale is farthest from, compared with the row's
// coefficients, or -1 if all rows hold.
func (q problem) worst(x []number.Integer, scale number.Integer) int {
	found := -1
	var most, size number.Integer
	for k, r := range q.rows {
		gap := r.Gap(x, scale)
		if r.Allows(gap.Sign()) {
			continue
		}
		var sum number.Integer
		for _, c := range r.Coef {
			sum = sum.Plus(c.Size())
		}
		if found < 0 || gap.Size().Times(size).Compare(most.Times(sum)) > 0 {
			found, most, size = k, gap.Size(), sum
		}
	}
	return found
}

// count returns how many points of a box are solutions.
func (q problem) count(b box) int {
	gaps := make([]number.Integer, len(q.rows))
	for k, r := range q.rows {
		gaps[k] = r.Right.Negated()
	}
	return q.countFrom(b, 0, gaps)
}

// countFrom returns for how many values of the variables from i on all rows
// hold, if the others have made these gaps.
func (q problem) countFrom(b box, i int, gaps []number.Integer) int {
	if i == len(b.low) {
		for k, r := range q.rows {
			if !r.Allows(gaps[k].Sign()) {
				return 0
			}
		}
		return 1
	}
	next := make([]number.Integer, len(gaps))
	for k, r := range q.rows {
		next[k] = gaps[k].Plus(r.Coef[i].Times(number.Of(b.low[i])))
	}
	found := 0
	for range b.high[i] - b.low[i] + 1 {
		found += q.countFrom(b, i+1, next)
		for k, r := range q.rows {
			next[k] = next[k].Plus(r.Coef[i])
		}
	}
	return found
}
