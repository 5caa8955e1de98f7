package recipe_test

import (
	"fmt"
	"math/big"
	"math/rand"
	"slices"
	"strings"

	"cracknel/api"
)

// A tree is an expression as the tests build it. Its kind is one of "number",
// "name", "call", "if", "minus" (the unary one), "^", "+", "-", "*" and "/".
type tree struct {
	kind  string
	text  string // of a number, and the name of a name or a call
	units []tag  // of a number: none is without UNITS
	n     int    // the exponent of "^"
	parts []*tree
}

// A tag is a unit with an exponent.
type tag struct {
	name string
	n    int
}

// A line is a definition as the tests build it.
type line struct {
	sort   string
	name   string
	params []string
	body   *tree
}

func num(text string, units ...tag) *tree { return &tree{kind: "number", text: text, units: units} }

func name(text string) *tree { return &tree{kind: "name", text: text} }

func node(kind string, parts ...*tree) *tree { return &tree{kind: kind, parts: parts} }

func callOf(name string, args ...*tree) *tree { return &tree{kind: "call", text: name, parts: args} }

func powerOf(base *tree, n int) *tree { return &tree{kind: "^", n: n, parts: []*tree{base}} }

// level says how tightly an expression binds: an atom most.
func (x *tree) level() int {
	switch x.kind {
	case "if":
		return 0
	case "+", "-":
		return 1
	case "*", "/":
		return 2
	case "minus", "^":
		return 3
	}
	return 4
}

func exponentTokens(n int) []string {
	if n < 0 {
		return []string{"^", "-", fmt.Sprint(-n)}
	}
	return []string{"^", fmt.Sprint(n)}
}

// A printer writes trees as tokens, with more brackets than needed if it is told
// to add some.
type printer struct {
	more func() bool
}

// tokens returns the tokens of an expression where one of at least that level is
// expected.
func (p printer) tokens(x *tree, level int) []string {
	if x.level() < level || p.more() {
		return slices.Concat([]string{"("}, p.tokens(x, 0), []string{")"})
	}
	part := func(i, level int) []string { return p.tokens(x.parts[i], level) }
	switch x.kind {
	case "number":
		return slices.Concat([]string{x.text}, p.units(x.units))
	case "name":
		return []string{x.text}
	case "call":
		out := []string{x.text}
		for i := range x.parts {
			out = append(append(out, []string{"(", ","}[min(i, 1)]), part(i, 0)...)
		}
		return append(out, ")")
	case "if":
		return slices.Concat([]string{"if"}, part(0, 0), []string{"<"}, part(1, 0), []string{"then"}, part(2, 0), []string{"else"}, part(3, 0))
	case "minus":
		return slices.Concat([]string{"-"}, part(0, 3))
	case "^":
		return slices.Concat(part(0, 4), exponentTokens(x.n))
	}
	return slices.Concat(part(0, x.level()), []string{x.kind}, part(1, x.level()+1))
}

func (p printer) units(units []tag) []string {
	if len(units) == 0 {
		return nil
	}
	out := []string{"["}
	for _, u := range units {
		out = append(out, u.name)
		if u.n != 1 || p.more() {
			out = append(out, exponentTokens(u.n)...)
		}
	}
	return append(out, "]")
}

func (p printer) line(l line) []string {
	switch l.sort {
	case "unit":
		return []string{"unit", l.name}
	case "let":
		return slices.Concat([]string{"let", l.name, "="}, p.tokens(l.body, 0))
	}
	out := []string{"fun", l.name}
	for i, param := range l.params {
		out = append(out, []string{"(", ","}[min(i, 1)], param)
	}
	return slices.Concat(out, []string{")", "="}, p.tokens(l.body, 0))
}

func isWord(token string) bool {
	return token[0] >= 'a' && token[0] <= 'z' || token[0] >= '0' && token[0] <= '9'
}

// spaced writes tokens with some blanks, and at least those that are needed.
func spaced(tokens []string, blanks func() int) string {
	out := strings.Repeat(" ", blanks())
	for i, token := range tokens {
		n := blanks()
		if i > 0 && n == 0 && isWord(token) && isWord(tokens[i-1]) {
			n = 1
		}
		if i > 0 {
			out += strings.Repeat(" ", n)
		}
		out += token
	}
	return out + strings.Repeat(" ", blanks())
}

// text writes a recipe with as few brackets and blanks as there may be.
func text(lines []line) string {
	plain := printer{func() bool { return false }}
	out := ""
	for _, l := range lines {
		out += spaced(plain.line(l), func() int { return 0 }) + "\n"
	}
	return out
}

// tokenCount returns how many tokens a line has, written like that.
func tokenCount(l line) int { return len(printer{func() bool { return false }}.line(l)) }

// someText writes a recipe with more of them.
func someText(r *rand.Rand, lines []line) string {
	loose := printer{func() bool { return r.Intn(12) == 0 }}
	out := ""
	for _, l := range lines {
		out += strings.Repeat("\n", r.Intn(2)) + spaced(loose.line(l), func() int { return r.Intn(4) / 2 }) + "\n"
	}
	if r.Intn(2) == 0 {
		out = strings.TrimSuffix(out, "\n")
	}
	return out
}

// A cook evaluates trees by the chapter's words.
type cook struct {
	lines []line
	scale map[string]*big.Rat
	steps int
}

func (c *cook) find(name string) line {
	for _, l := range c.lines {
		if l.name == name {
			return l
		}
	}
	panic(name)
}

func (c *cook) value(x *tree, params map[string]*big.Rat) (*big.Rat, api.Errno) {
	if c.steps++; c.steps > api.MaxFuel {
		return nil, api.ErrLong
	}
	out, e := c.evaluate(x, params)
	if e == api.OK && (digitsOf(out.Num()) > api.MaxDigits || digitsOf(out.Denom()) > api.MaxDigits) {
		return nil, api.ErrRange
	}
	return out, e
}

func digitsOf(x *big.Int) int { return len(new(big.Int).Abs(x).String()) }

func (c *cook) evaluate(x *tree, params map[string]*big.Rat) (*big.Rat, api.Errno) {
	switch x.kind {
	case "number":
		out, _ := new(big.Rat).SetString(x.text)
		for _, u := range x.units {
			out.Mul(out, ratPower(c.scale[u.name], u.n))
		}
		return out, api.OK
	case "name":
		if v := params[x.text]; v != nil {
			return v, api.OK
		}
		return c.value(c.find(x.text).body, nil)
	case "if":
		return c.choose(x, params)
	}
	var values []*big.Rat
	for _, part := range x.parts {
		v, e := c.value(part, params)
		if e != api.OK {
			return nil, e
		}
		values = append(values, v)
	}
	return c.apply(x, values)
}

func (c *cook) choose(x *tree, params map[string]*big.Rat) (*big.Rat, api.Errno) {
	low, e := c.value(x.parts[0], params)
	if e != api.OK {
		return nil, e
	}
	high, e := c.value(x.parts[1], params)
	if e != api.OK {
		return nil, e
	}
	if low.Cmp(high) < 0 {
		return c.value(x.parts[2], params)
	}
	return c.value(x.parts[3], params)
}

func (c *cook) apply(x *tree, v []*big.Rat) (*big.Rat, api.Errno) {
	out := new(big.Rat)
	switch x.kind {
	case "call":
		l := c.find(x.text)
		params := map[string]*big.Rat{}
		for i, name := range l.params {
			params[name] = v[i]
		}
		return c.value(l.body, params)
	case "minus":
		return out.Neg(v[0]), api.OK
	case "^":
		if v[0].Sign() == 0 && x.n < 0 {
			return nil, api.ErrZero
		}
		return ratPower(v[0], x.n), api.OK
	case "+":
		return out.Add(v[0], v[1]), api.OK
	case "-":
		return out.Sub(v[0], v[1]), api.OK
	case "*":
		return out.Mul(v[0], v[1]), api.OK
	}
	if v[1].Sign() == 0 {
		return nil, api.ErrZero
	}
	return out.Quo(v[0], v[1]), api.OK
}

func ratPower(x *big.Rat, n int) *big.Rat {
	out := big.NewRat(1, 1)
	for range max(n, -n) {
		out.Mul(out, x)
	}
	if n < 0 {
		out.Inv(out)
	}
	return out
}

// A kitchen says what random trees are made of.
type kitchen struct {
	r      *rand.Rand
	units  []string
	params []string
	lets   []string
	funs   []line
}

func pick[T any](r *rand.Rand, list []T) T { return list[r.Intn(len(list))] }

func (k kitchen) leaf() *tree {
	switch n := k.r.Intn(20); {
	case n < 9 && len(k.params) > 0:
		return name(pick(k.r, k.params))
	case n < 11:
		return num(pick(k.r, []string{"0", "0", "0", "0.0", "0.000"}))
	case n < 13:
		return num(pick(k.r, []string{"1", "2", "7", "0.5", "1.25", "30"}))
	case n < 15 && len(k.lets) > 0:
		return name(pick(k.r, k.lets))
	}
	return k.number()
}

func (k kitchen) number() *tree {
	out := num(pick(k.r, []string{"1", "2", "3", "0.1", "10", "0"}))
	for i := 0; len(k.units) > 0 && i < 1+k.r.Intn(2); i++ {
		out.units = append(out.units, tag{pick(k.r, k.units), pick(k.r, []int{1, 1, 1, 2, 3, -1, -2, 0})})
	}
	return out
}

// tree returns a random expression.
func (k kitchen) tree(depth int) *tree {
	if depth == 0 || k.r.Intn(8) == 0 {
		return k.leaf()
	}
	part := func() *tree { return k.tree(depth - 1) }
	switch n := k.r.Intn(20); {
	case n < 8:
		return node(pick(k.r, []string{"*", "*", "/"}), part(), part())
	case n < 12:
		return node(pick(k.r, []string{"+", "-"}), part(), part())
	case n < 14:
		return powerOf(part(), pick(k.r, []int{2, 2, 3, -1, -2, 0, 1, 4}))
	case n < 15:
		return node("minus", part())
	case n < 16:
		return node("if", part(), part(), part(), part())
	case len(k.funs) > 0:
		f := pick(k.r, k.funs)
		out := callOf(f.name)
		for range f.params {
			out.parts = append(out.parts, part())
		}
		return out
	}
	return k.leaf()
}

// definition returns a random let or fun.
func (k kitchen) definition(name string, depth int) line {
	out := line{sort: "let", name: name}
	if k.r.Intn(4) > 0 {
		out.sort = "fun"
		for i := range 1 + k.r.Intn(api.MaxParams) {
			out.params = append(out.params, "p"+string(rune('a'+i)))
		}
	}
	k.params = out.params
	out.body = k.tree(depth)
	return out
}
