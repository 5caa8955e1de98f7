package recipe

import (
	"slices"
	"strings"

	"cracknel/api"
)

// A definition is a line of a recipe.
type definition struct {
	sort   string // the keyword with which it begins
	name   string
	params []string
	body   node // of a unit there is none
	types  choices
}

// A book is what has been read of a recipe.
type book struct {
	units []string // in the order of their definitions
	known map[string]*definition
}

// read reads a recipe: with an error it returns the line that has it, or 0 if the
// recipe is too long.
func read(source string) (*book, int, api.Errno) {
	if len(source) > api.MaxSource {
		return nil, 0, api.ErrLong
	}
	b := &book{known: map[string]*definition{}}
	for i, line := range strings.Split(source, "\n") {
		if line == "" {
			continue
		}
		if e := b.add(line); e != api.OK {
			return nil, i + 1, e
		}
	}
	return b, 0, api.OK
}

// add adds the definition that a line is.
func (b *book) add(line string) api.Errno {
	tokens, ok := scan(line)
	if !ok {
		return api.ErrForm
	}
	d, ok := parse(tokens)
	switch {
	case !ok:
		return api.ErrForm
	case len(tokens) > api.MaxTokens:
		return api.ErrLong
	case !b.hasRoom(d):
		return api.ErrFull
	case !b.isNew(d) || d.body != nil && !b.knows(d.body, d.params):
		return api.ErrName
	}
	if e := b.settle(d); e != api.OK {
		return e
	}
	b.known[d.name] = d
	return api.OK
}

// hasRoom reports whether there are not too many units, definitions and parameters
// with d.
func (b *book) hasRoom(d *definition) bool {
	isMore := d.sort == "unit" && len(b.units) == api.MaxUnits
	return !isMore && len(b.known) < api.MaxDefs && len(d.params) <= api.MaxParams
}

// isNew reports whether none of d's names is taken.
func (b *book) isNew(d *definition) bool {
	taken := append([]string{d.name}, d.params...)
	slices.Sort(taken)
	isKnown := func(name string) bool { return b.known[name] != nil }
	return len(slices.Compact(taken)) == 1+len(d.params) && !slices.ContainsFunc(taken, isKnown)
}

// knows reports whether all names of an expression are those of its parameters or
// of definitions of the right sort, and all calls have as many arguments as their
// functions have parameters.
func (b *book) knows(x node, params []string) bool {
	switch x := x.(type) {
	case *literal:
		isOther := func(f factor) bool { return !slices.Contains(b.units, f.unit) }
		return !slices.ContainsFunc(x.units, isOther)
	case *use:
		return slices.Contains(params, x.name) || b.find(x.name, "let") != nil
	case *call:
		if d := b.find(x.name, "fun"); d == nil || len(d.params) != len(x.args) {
			return false
		}
	}
	isUnknown := func(part node) bool { return !b.knows(part, params) }
	return !slices.ContainsFunc(x.parts(), isUnknown)
}

// find returns a definition of one of these sorts, or nil.
func (b *book) find(name string, sorts ...string) *definition {
	d := b.known[name]
	if d == nil || !slices.Contains(sorts, d.sort) {
		return nil
	}
	return d
}

// settle finds the types of a definition whose names are right, or notes that it
// is a unit.
func (b *book) settle(d *definition) api.Errno {
	if d.sort == "unit" {
		b.units = append(b.units, d.name)
		return api.OK
	}
	types, ok := typist{b, d.params}.infer(d.body)
	if !ok {
		return api.ErrType
	}
	if !types.isShort() {
		return api.ErrRange
	}
	d.types = types
	return api.OK
}

// typesOf returns the types of a definition, for all units that are known by now.
func (b *book) typesOf(d *definition) choices { return d.types.withUnits(len(b.units)) }

// dims returns the exponents of a number's units.
func (b *book) dims(x *literal) []int {
	out := make([]int, len(b.units))
	for _, f := range x.units {
		out[slices.Index(b.units, f.unit)] += f.exponent
	}
	return out
}
