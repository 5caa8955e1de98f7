package recipe

import "cracknel/number"

// A node is an expression, or a part of one.
type node interface {
	// parts returns the nodes of which it consists, from left to right.
	parts() []node
}

// A literal is a number, with or without units.
type literal struct {
	value    number.Ratio
	hasUnits bool
	units    []factor
}

// A factor is a unit to the power of an exponent.
type factor struct {
	unit     string
	exponent int
}

// A use is the name of a parameter or of a let.
type use struct {
	name string
}

// A call is a use of a function.
type call struct {
	name string
	args []node
}

// A negation is a unary minus.
type negation struct {
	of node
}

// A power has an exponent that is written out.
type power struct {
	base     node
	exponent int
}

// An operation is a sum, a difference, a product or a quotient.
type operation struct {
	sign        string
	left, right node
}

// A choice is an if: its result is yes if low is less than high, else no.
type choice struct {
	low, high, yes, no node
}

func (x *literal) parts() []node { return nil }

func (x *use) parts() []node { return nil }

func (x *call) parts() []node { return x.args }

func (x *negation) parts() []node { return []node{x.of} }

func (x *power) parts() []node { return []node{x.base} }

func (x *operation) parts() []node { return []node{x.left, x.right} }

func (x *choice) parts() []node { return []node{x.low, x.high, x.yes, x.no} }

// isAny reports whether the number has any unit.
func (x *literal) isAny() bool { return x.value.IsZero() && !x.hasUnits }
