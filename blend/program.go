package blend

import (
	"strings"

	"cracknel/api"
	"cracknel/exact"
	"cracknel/number"
)

// mostDigits is how many digits the numerators and denominators of a program
// may have.
const mostDigits = 40

// A form is a linear function of the variables, and a right side, multiplied
// by a factor that makes integers of them.
type form struct {
	coef   []number.Integer
	right  number.Integer
	growth number.Integer // what the parameter adds to the right side, times itself
	factor number.Integer // above 0
}

// A row is a form that is at most, at least or equal to its right side.
type row struct {
	form
	kind int
}

// A program is a valid api.Program. Its cost has the right side 0.
type program struct {
	cost form
	rows []row
}

// read reads a program: ErrForm if a Num is not valid, one of its own or of some
// others, and ErrArg if the program is not.
func read(p api.Program, others ...api.Num) (program, api.Errno) {
	if !areNums(numsOf(p)...) || !areNums(others...) {
		return program{}, api.ErrForm
	}
	if !isValid(p) {
		return program{}, api.ErrArg
	}
	out := program{cost: newForm(p.Cost, "0")}
	for _, r := range p.Rows {
		out.rows = append(out.rows, row{newForm(r.Coef, r.Right), r.Kind})
	}
	return out, api.OK
}

// numsOf returns all Nums of a program.
func numsOf(p api.Program) []api.Num {
	out := append([]api.Num(nil), p.Cost...)
	for _, r := range p.Rows {
		out = append(out, r.Coef...)
		out = append(out, r.Right)
	}
	return out
}

func areNums(nums ...api.Num) bool {
	for _, x := range nums {
		if exact.Check(x) != api.OK {
			return false
		}
	}
	return true
}

// isValid reports whether a program whose Nums are valid is valid itself.
func isValid(p api.Program) bool {
	if len(p.Cost) < 1 || len(p.Cost) > api.MaxVars || len(p.Rows) > api.MaxLimits {
		return false
	}
	for _, r := range p.Rows {
		isKind := r.Kind == api.AtMost || r.Kind == api.AtLeast || r.Kind == api.Equal
		if !isKind || len(r.Coef) != len(p.Cost) {
			return false
		}
	}
	return areShort(numsOf(p)...)
}

// areShort reports whether valid Nums have no more digits than a program's may
// have.
func areShort(nums ...api.Num) bool {
	for _, x := range nums {
		top, bottom, _ := strings.Cut(strings.TrimPrefix(string(x), "-"), "/")
		if len(top) > mostDigits || len(bottom) > mostDigits {
			return false
		}
	}
	return true
}

func newForm(coef []api.Num, right api.Num) form {
	values := append(ratios(coef), ratio(right))
	whole, factor := number.Scaled(values)
	return form{coef: whole[:len(coef)], right: whole[len(coef)], factor: factor}
}

// ratio returns the value of a valid Num.
func ratio(x api.Num) number.Ratio {
	value, _ := number.Parse(x)
	return value
}

func ratios(nums []api.Num) []number.Ratio {
	out := make([]number.Ratio, len(nums))
	for i, x := range nums {
		out[i] = ratio(x)
	}
	return out
}

// texts returns values as Nums: ErrRange if one has too many digits.
func texts(values []number.Ratio) ([]api.Num, api.Errno) {
	var out []api.Num
	for _, x := range values {
		text, ok := x.Text()
		if !ok {
			return nil, api.ErrRange
		}
		out = append(out, text)
	}
	return out, api.OK
}
