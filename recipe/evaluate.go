package recipe

import (
	"slices"

	"cracknel/api"
	"cracknel/number"
)

// An evaluation is one of a definition, with all that it uses.
type evaluation struct {
	book  *book
	scale []number.Ratio
	worth map[*literal]number.Ratio // of the numbers that have been evaluated
	steps int
}

func newEvaluation(b *book, scale []api.Num) *evaluation {
	return &evaluation{book: b, scale: number.Values(scale), worth: map[*literal]number.Ratio{}}
}

// given are the parameters of a function, with their values.
type given struct {
	names  []string
	values []number.Ratio
}

// value returns the value of an expression: the error is the one that occurs
// first.
func (v *evaluation) value(x node, params given) (number.Ratio, api.Errno) {
	if v.steps == api.MaxFuel {
		return number.Ratio{}, api.ErrLong
	}
	v.steps++
	out, e := v.evaluate(x, params)
	if e != api.OK {
		return number.Ratio{}, e
	}
	if !out.IsShort() {
		return number.Ratio{}, api.ErrRange
	}
	return out, api.OK
}

func (v *evaluation) evaluate(x node, params given) (number.Ratio, api.Errno) {
	switch x := x.(type) {
	case *literal:
		return v.worthOf(x), api.OK
	case *use:
		if i := slices.Index(params.names, x.name); i >= 0 {
			return params.values[i], api.OK
		}
		return v.value(v.book.known[x.name].body, given{})
	case *call:
		values, e := v.values(x.args, params)
		if e != api.OK {
			return number.Ratio{}, e
		}
		d := v.book.known[x.name]
		return v.value(d.body, given{d.params, values})
	case *choice:
		return v.chosen(x, params)
	}
	operands, e := v.values(x.parts(), params)
	if e != api.OK {
		return number.Ratio{}, e
	}
	return apply(x, operands)
}

// values returns the values of expressions, from left to right.
func (v *evaluation) values(list []node, params given) ([]number.Ratio, api.Errno) {
	var out []number.Ratio
	for _, x := range list {
		value, e := v.value(x, params)
		if e != api.OK {
			return nil, e
		}
		out = append(out, value)
	}
	return out, api.OK
}

// worthOf returns a number times the worth of its units. It is the same each time,
// and may take long.
func (v *evaluation) worthOf(x *literal) number.Ratio {
	if worth, ok := v.worth[x]; ok {
		return worth
	}
	worth := x.value
	for i, n := range v.book.dims(x) {
		worth = worth.Times(v.scale[i].Power(n))
	}
	v.worth[x] = worth
	return worth
}

func (v *evaluation) chosen(x *choice, params given) (number.Ratio, api.Errno) {
	compared, e := v.values([]node{x.low, x.high}, params)
	if e != api.OK {
		return number.Ratio{}, e
	}
	if compared[0].Compare(compared[1]) < 0 {
		return v.value(x.yes, params)
	}
	return v.value(x.no, params)
}

// apply returns what an operator makes of its operands.
func apply(x node, operands []number.Ratio) (number.Ratio, api.Errno) {
	switch x := x.(type) {
	case *negation:
		return operands[0].Negated(), api.OK
	case *power:
		if operands[0].IsZero() && x.exponent < 0 {
			return number.Ratio{}, api.ErrZero
		}
		return operands[0].Power(x.exponent), api.OK
	case *operation:
		return operate(x.sign, operands[0], operands[1])
	}
	return number.Ratio{}, api.OK
}

func operate(sign string, left, right number.Ratio) (number.Ratio, api.Errno) {
	switch sign {
	case "+":
		return left.Plus(right), api.OK
	case "-":
		return left.Minus(right), api.OK
	case "*":
		return left.Times(right), api.OK
	}
	if right.IsZero() {
		return number.Ratio{}, api.ErrZero
	}
	return left.Over(right), api.OK
}
