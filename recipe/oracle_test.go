package recipe_test

import (
	"math/big"
	"slices"

	"cracknel/api"
)

// A form is a linear function of unknown exponents, and for each unit a constant.
type form struct {
	coef []*big.Int
	plus []*big.Int
}

// A system is all that the rules say of the exponents of an expression: forms that
// are 0. It knows no types of lets and funs: instead, their expressions stand
// wherever they are used, with exponents of their own.
type system struct {
	lines   []line
	units   []string
	unknown int
	zero    []form
}

func at(list []*big.Int, i int) *big.Int {
	if i < len(list) {
		return list[i]
	}
	return new(big.Int)
}

func combined(a, b []*big.Int, n int) []*big.Int {
	var out []*big.Int
	for i := range max(len(a), len(b)) {
		out = append(out, new(big.Int).Add(at(a, i), new(big.Int).Mul(at(b, i), big.NewInt(int64(n)))))
	}
	return out
}

// add returns a + n·b.
func (a form) add(b form, n int) form {
	return form{combined(a.coef, b.coef, n), combined(a.plus, b.plus, n)}
}

// fresh returns an exponent that is not known.
func (s *system) fresh() form {
	s.unknown++
	out := form{coef: make([]*big.Int, s.unknown)}
	for i := range out.coef {
		out.coef[i] = new(big.Int)
	}
	out.coef[s.unknown-1].SetInt64(1)
	return out
}

// need says that two exponents are the same.
func (s *system) need(a, b form) { s.zero = append(s.zero, a.add(b, -1)) }

func (s *system) number(x *tree) form {
	if value, _ := new(big.Rat).SetString(x.text); value.Sign() == 0 && len(x.units) == 0 {
		return s.fresh()
	}
	out := form{plus: make([]*big.Int, len(s.units))}
	for i, unit := range s.units {
		out.plus[i] = new(big.Int)
		for _, u := range x.units {
			if u.name == unit {
				out.plus[i].Add(out.plus[i], big.NewInt(int64(u.n)))
			}
		}
	}
	return out
}

// exponent returns the exponent of an expression.
func (s *system) exponent(x *tree, params map[string]form) form {
	switch x.kind {
	case "number":
		return s.number(x)
	case "name":
		if f, ok := params[x.text]; ok {
			return f
		}
		return s.exponent((&cook{lines: s.lines}).find(x.text).body, nil)
	}
	var parts []form
	for _, part := range x.parts {
		parts = append(parts, s.exponent(part, params))
	}
	switch x.kind {
	case "call":
		l := (&cook{lines: s.lines}).find(x.text)
		inner := map[string]form{}
		for i, name := range l.params {
			inner[name] = parts[i]
		}
		return s.exponent(l.body, inner)
	case "if":
		s.need(parts[0], parts[1])
		s.need(parts[2], parts[3])
		return parts[2]
	case "^":
		return form{}.add(parts[0], x.n)
	case "*":
		return parts[0].add(parts[1], 1)
	case "/":
		return parts[0].add(parts[1], -1)
	case "+", "-":
		s.need(parts[0], parts[1])
	}
	return parts[0]
}

// A solution is what is said of a definition's exponents: for each unit one vector
// (none if there is none), and rows that generate all others of each unit.
type solution struct {
	one  [][]*big.Int
	rows [][]*big.Int
}

// solve returns all exponents of the parameters and the result of a definition. If
// there are given exponents of the parameters, for each unit, only these are.
func solve(lines []line, l line, given [][]int) solution {
	s := &system{lines: lines}
	for _, l := range lines {
		if l.sort == "unit" {
			s.units = append(s.units, l.name)
		}
	}
	params := map[string]form{}
	var seen []form
	for i, name := range l.params {
		params[name] = s.fresh()
		seen = append(seen, params[name])
		if given != nil {
			value := form{}
			for _, exponents := range given {
				value.plus = append(value.plus, big.NewInt(int64(exponents[i])))
			}
			s.need(params[name], value)
		}
	}
	seen = append(seen, s.exponent(l.body, params))
	return s.solution(seen)
}

// solution looks at the exponents that are seen of all solutions.
func (s *system) solution(seen []form) solution {
	var columns [][]*big.Int
	for i := range s.unknown {
		var column []*big.Int
		for _, f := range slices.Concat(s.zero, seen) {
			column = append(column, new(big.Int).Set(at(f.coef, i)))
		}
		columns = append(columns, column)
	}
	var out solution
	pivots := eliminate(columns, len(s.zero))
	for _, column := range columns[len(pivots):] {
		out.rows = append(out.rows, column[len(s.zero):])
	}
	for unit := range s.units {
		var v []*big.Int
		for _, f := range slices.Concat(s.zero, seen) {
			v = append(v, new(big.Int).Set(at(f.plus, unit)))
		}
		out.one = append(out.one, settled(columns, pivots, v, len(s.zero)))
	}
	return out
}

// eliminate makes a staircase of columns by steps that keep what they generate: it
// returns the rows, of the first ones, in which the first columns have an entry
// that the columns behind them do not have.
func eliminate(columns [][]*big.Int, rows int) []int {
	var pivots []int
	for row := range rows {
		k := len(pivots)
		for i := k + 1; i < len(columns); i++ {
			for columns[i][row].Sign() != 0 {
				quotient := new(big.Int).Quo(columns[k][row], columns[i][row])
				columns[k] = combinedBig(columns[k], columns[i], quotient.Neg(quotient))
				columns[k], columns[i] = columns[i], columns[k]
			}
		}
		if k < len(columns) && columns[k][row].Sign() != 0 {
			pivots = append(pivots, row)
		}
	}
	return pivots
}

func combinedBig(a, b []*big.Int, n *big.Int) []*big.Int {
	var out []*big.Int
	for i := range a {
		out = append(out, new(big.Int).Add(a[i], new(big.Int).Mul(b[i], n)))
	}
	return out
}

// settled adds columns to v until its first rows are 0, and returns the other
// ones: nothing if that cannot be done.
func settled(columns [][]*big.Int, pivots []int, v []*big.Int, rows int) []*big.Int {
	for k, row := range pivots {
		quotient := new(big.Int).Quo(v[row], columns[k][row])
		v = combinedBig(v, columns[k], quotient.Neg(quotient))
	}
	if slices.ContainsFunc(v[:rows], func(x *big.Int) bool { return x.Sign() != 0 }) {
		return nil
	}
	return v[rows:]
}

// isTyped reports whether there is a vector for each unit.
func (s solution) isTyped() bool {
	return !slices.ContainsFunc(s.one, func(v []*big.Int) bool { return v == nil })
}

// result returns what is said of the result's exponent of a unit if those of the
// parameters were given: the least that is 0 or more if there are several ones.
func (s solution) result(unit int) *big.Int {
	step := new(big.Int)
	for _, row := range s.rows {
		last := row[len(row)-1]
		step.GCD(nil, nil, step, new(big.Int).Abs(last))
	}
	one := s.one[unit][len(s.one[unit])-1]
	if step.Sign() == 0 {
		return one
	}
	return new(big.Int).Mod(one, step)
}

func bigOf(x api.Num) *big.Int {
	out, ok := new(big.Int).SetString(string(x), 10)
	if !ok || out.String() != string(x) {
		panic(string(x))
	}
	return out
}

func bigRow(row []api.Num) []*big.Int {
	var out []*big.Int
	for _, x := range row {
		out = append(out, bigOf(x))
	}
	return out
}

func bigRows(rows [][]api.Num) [][]*big.Int {
	var out [][]*big.Int
	for _, row := range rows {
		out = append(out, bigRow(row))
	}
	return out
}

// pivotOf returns the column of a row's first entry that is not 0, or the number
// of its entries.
func pivotOf(row []*big.Int) int {
	for i, x := range row {
		if x.Sign() != 0 {
			return i
		}
	}
	return len(row)
}

// isHermite follows chapter 1, for matrices without zero rows.
func isHermite(rows [][]*big.Int) bool {
	last := -1
	for i, row := range rows {
		k := pivotOf(row)
		if k == len(row) || k <= last || row[k].Sign() < 0 {
			return false
		}
		for _, above := range rows[:i] {
			if above[k].Sign() < 0 || above[k].Cmp(row[k]) >= 0 {
				return false
			}
		}
		last = k
	}
	return true
}

// isReduced follows chapter 1.
func isReduced(v []*big.Int, rows [][]*big.Int) bool {
	return !slices.ContainsFunc(rows, func(row []*big.Int) bool {
		k := pivotOf(row)
		return v[k].Sign() < 0 || v[k].Cmp(row[k]) >= 0
	})
}

// isCombination reports whether v is a combination of rows in Hermite normal form.
func isCombination(v []*big.Int, rows [][]*big.Int) bool {
	for _, row := range rows {
		k := pivotOf(row)
		quotient, rest := new(big.Int).QuoRem(v[k], row[k], new(big.Int))
		if rest.Sign() != 0 {
			return false
		}
		v = combinedBig(v, row, quotient.Neg(quotient))
	}
	return pivotOf(v) == len(v)
}
