package recipe

import (
	"slices"

	"cracknel/number"
)

// A typist infers the types of expressions. Their vectors are the exponents of the
// parameters and, last, of the expression itself.
//
// What is chosen within an expression matters to what is around it by these
// exponents alone: so they are all that is to be known of each part.
type typist struct {
	book   *book
	params []string
}

// infer returns the choices for an expression, or false if there are none.
func (t typist) infer(x node) (choices, bool) {
	switch x := x.(type) {
	case *literal:
		if x.isAny() {
			return t.beside(everything(1, len(t.book.units))), true
		}
		return t.beside(single(t.book.dims(x))), true
	case *use:
		return t.ofUse(x), true
	case *call:
		return t.ofCall(x)
	case *negation:
		return t.infer(x.of)
	case *power:
		return t.ofPower(x)
	case *operation:
		return t.ofOperation(x)
	case *choice:
		return t.ofChoice(x)
	}
	return choices{}, false
}

// all returns the choices for the parameters alone.
func (t typist) all() choices { return everything(len(t.params), len(t.book.units)) }

// beside returns the choices for an expression whose exponent does not depend on
// the parameters.
func (t typist) beside(own choices) choices {
	out, _ := join(t.all(), own, func(_, _ vector) vector { return nil }, func(x, y vector) vector { return slices.Concat(x, y) })
	return out
}

func (t typist) ofUse(x *use) choices {
	if i := slices.Index(t.params, x.name); i >= 0 {
		return t.all().image(func(v vector) vector { return t.with(v, v[i]) })
	}
	return t.beside(t.book.typesOf(t.book.known[x.name]))
}

// own returns the exponent of the expression.
func (t typist) own(x vector) number.Integer { return x[len(t.params)] }

// with returns the exponents of the same parameters and of another expression.
func (t typist) with(x vector, own number.Integer) vector {
	return slices.Concat(x[:len(t.params)], vector{own})
}

// differ returns zeros if two expressions have the same parameters.
func (t typist) differ(x, y vector) vector {
	n := len(t.params)
	return minus(x[:n], y[:n])
}

func (t typist) ofPower(x *power) (choices, bool) {
	base, ok := t.infer(x.base)
	if !ok {
		return choices{}, false
	}
	return base.image(func(v vector) vector { return t.with(v, t.own(v).Times(number.Of(x.exponent))) }), true
}

// both infers two expressions and joins them.
func (t typist) both(left, right node, differ, keep func(x, y vector) vector) (choices, bool) {
	one, ok := t.infer(left)
	if !ok {
		return choices{}, false
	}
	other, ok := t.infer(right)
	if !ok {
		return choices{}, false
	}
	return join(one, other, differ, keep)
}

// agree infers two expressions that have the same exponents.
func (t typist) agree(left, right node) (choices, bool) {
	return t.both(left, right, minus, func(x, _ vector) vector { return x })
}

func (t typist) ofOperation(x *operation) (choices, bool) {
	switch x.sign {
	case "*":
		return t.both(x.left, x.right, t.differ, func(x, y vector) vector { return t.with(x, t.own(x).Plus(t.own(y))) })
	case "/":
		return t.both(x.left, x.right, t.differ, func(x, y vector) vector { return t.with(x, t.own(x).Minus(t.own(y))) })
	}
	return t.agree(x.left, x.right)
}

func (t typist) ofChoice(x *choice) (choices, bool) {
	compared, ok := t.agree(x.low, x.high)
	if !ok {
		return choices{}, false
	}
	results, ok := t.agree(x.yes, x.no)
	if !ok {
		return choices{}, false
	}
	return join(compared, results, t.differ, func(_, y vector) vector { return y })
}

// ofCall collects the exponents of the arguments behind those of the parameters,
// and replaces them by that of the function's result.
func (t typist) ofCall(x *call) (choices, bool) {
	n := len(t.params)
	out := t.all()
	for _, part := range x.args {
		arg, ok := t.infer(part)
		if ok {
			out, ok = join(out, arg, t.differ, func(x, y vector) vector { return slices.Concat(x, y[n:]) })
		}
		if !ok {
			return choices{}, false
		}
	}
	types := t.book.typesOf(t.book.known[x.name])
	m := len(x.args)
	return join(out, types, func(x, y vector) vector { return minus(x[n:], y[:m]) }, func(x, y vector) vector { return slices.Concat(x[:n], y[m:]) })
}
