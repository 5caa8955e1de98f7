package blend

import (
	"cracknel/api"
	"cracknel/exact"
	"cracknel/linear"
	"cracknel/number"
)

// mostDigits is how many digits the numerators and denominators of a program
// may have.
const mostDigits = 40

// A program is a valid api.Program. Its cost has the right side 0.
type program struct {
	cost   linear.Form
	rows   []linear.Row
	growth []number.Integer // what the parameter adds to each right side, times itself
}

// read reads a program: ErrForm if a Num is not valid, one of its own or of some
// others, and ErrArg if the program is not.
func read(p api.Program, others ...api.Num) (program, api.Errno) {
	if !areNums(numsOf(p)...) || !areNums(others...) {
		return program{}, api.ErrForm
	}
	if !isValid(p) {
		return program{}, api.ErrArg
	}
	growth := make([]number.Integer, len(p.Rows))
	return program{linear.NewForm(p.Cost, "0"), linear.Rows(p), growth}, api.OK
}

// numsOf returns all Nums of a program.
func numsOf(p api.Program) []api.Num {
	out := append([]api.Num(nil), p.Cost...)
	for _, r := range p.Rows {
		out = append(out, r.Coef...)
		out = append(out, r.Right)
	}
	return out
}

func areNums(nums ...api.Num) bool {
	for _, x := range nums {
		if exact.Check(x) != api.OK {
			return false
		}
	}
	return true
}

// isValid reports whether a program whose Nums are valid is valid itself.
func isValid(p api.Program) bool {
	if len(p.Cost) < 1 || len(p.Cost) > api.MaxVars || len(p.Rows) > api.MaxLimits {
		return false
	}
	for _, r := range p.Rows {
		isKind := r.Kind == api.AtMost || r.Kind == api.AtLeast || r.Kind == api.Equal
		if !isKind || len(r.Coef) != len(p.Cost) {
			return false
		}
	}
	return areShort(numsOf(p)...)
}

// areShort reports whether valid Nums have no more digits than a program's may
// have.
func areShort(nums ...api.Num) bool {
	for _, x := range nums {
		if number.Digits(x) > mostDigits {
			return false
		}
	}
	return true
}

// texts returns values as Nums: ErrRange if one has too many digits.
func texts(values []number.Ratio) ([]api.Num, api.Errno) {
	var out []api.Num
	for _, x := range values {
		text, ok := x.Text()
		if !ok {
			return nil, api.ErrRange
		}
		out = append(out, text)
	}
	return out, api.OK
}
