package works

import (
	"slices"
	"strings"

	"cracknel/api"
	"cracknel/exact"
	"cracknel/recipe"
)

const mostScaleDigits = 40

// A book is a recipe and what its units are worth.
type book struct {
	source string
	units  []string
	scales []api.Num
}

func (b *book) clone() book {
	return book{b.source, slices.Clone(b.units), slices.Clone(b.scales)}
}

// addDefinition appends a line to the recipe.
func (w *Works) addDefinition(words []string) (string, api.Errno) {
	source := w.book.source + words[0] + "\n"
	if _, e := recipe.Check(source); e != api.OK {
		return "", e
	}
	w.book.source = source
	if tokens := strings.Fields(words[0]); tokens[0] == "unit" {
		w.book.units = append(w.book.units, tokens[1])
		w.book.scales = append(w.book.scales, "1")
	}
	return "", api.OK
}

func (w *Works) setScale(words []string) (string, api.Errno) {
	unit := slices.Index(w.book.units, words[0])
	if unit < 0 {
		return "", api.ErrName
	}
	scale := api.Num(words[1])
	if sign, _ := exact.Cmp(scale, "0"); sign <= 0 || !isShort(scale) {
		return "", api.ErrArg
	}
	w.book.scales[unit] = scale
	return "", api.OK
}

// isShort reports whether a Num above 0 may be a scale.
func isShort(scale api.Num) bool {
	above, below, _ := strings.Cut(string(scale), "/")
	return len(above) <= mostScaleDigits && len(below) <= mostScaleDigits
}

func (w *Works) showType(words []string) (string, api.Errno) {
	s, e := recipe.Type(w.book.source, words[0])
	if e != api.OK {
		return "", e
	}
	out := number("params", s.Params)
	for _, row := range s.Free {
		out += value("free", row...)
	}
	for unit, row := range s.Fixed {
		out += value(w.book.units[unit], row...)
	}
	return out, api.OK
}

// evaluate returns the quantity that a name of the recipe stands for.
func (b *book) evaluate(name string) (api.Qty, api.Errno) {
	return recipe.Eval(b.source, name, nil, b.scales)
}

func (w *Works) showValue(words []string) (string, api.Errno) {
	q, e := w.book.evaluate(words[0])
	if e != api.OK {
		return "", e
	}
	out := value("value", q.Value)
	for unit, exponent := range q.Dim {
		if exponent != 0 {
			out += number(w.book.units[unit], exponent)
		}
	}
	return out, api.OK
}
