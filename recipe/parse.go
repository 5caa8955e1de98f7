package recipe

import (
	"strconv"
	"strings"

	"cracknel/api"
	"cracknel/number"
)

// A parser reads the tokens of a line. At the first one that does not fit it goes
// to the end of the line, where nothing fits any more.
type parser struct {
	tokens  []token
	at      int
	isWrong bool
}

// parse returns the definition that the tokens of a line are, or false if they are
// none.
func parse(tokens []token) (*definition, bool) {
	p := &parser{tokens: tokens}
	d := p.definition()
	return d, !p.isWrong && p.at == len(tokens)
}

func (p *parser) next() token {
	if p.at < len(p.tokens) {
		return p.tokens[p.at]
	}
	return token{}
}

func (p *parser) fail() {
	p.at, p.isWrong = len(p.tokens), true
}

// takes goes on if the next token is a given keyword or symbol, and reports
// whether it is.
func (p *parser) takes(text string) bool {
	if p.next().text != text {
		return false
	}
	p.at++
	return true
}

func (p *parser) expect(text string) {
	if !p.takes(text) {
		p.fail()
	}
}

// take goes on if the next token is of a kind, and returns its text.
func (p *parser) take(kind int) string {
	next := p.next()
	if next.kind != kind {
		p.fail()
		return ""
	}
	p.at++
	return next.text
}

func (p *parser) definition() *definition {
	d := &definition{sort: p.take(keyToken)}
	d.name = p.take(nameToken)
	switch d.sort {
	case "unit":
		return d
	case "let", "fun":
	default:
		p.fail()
	}
	if d.sort == "fun" {
		d.params = p.params()
	}
	p.expect("=")
	d.body = p.expression()
	return d
}

func (p *parser) params() []string {
	p.expect("(")
	out := []string{p.take(nameToken)}
	for p.takes(",") {
		out = append(out, p.take(nameToken))
	}
	p.expect(")")
	return out
}

func (p *parser) expression() node {
	if !p.takes("if") {
		return p.sum()
	}
	x := &choice{}
	x.low = p.expression()
	p.expect("<")
	x.high = p.expression()
	p.expect("then")
	x.yes = p.expression()
	p.expect("else")
	x.no = p.expression()
	return x
}

func (p *parser) sum() node { return p.chain("+", "-", p.term) }

func (p *parser) term() node { return p.chain("*", "/", p.factor) }

// chain reads parts with either of two signs between them.
func (p *parser) chain(one, other string, part func() node) node {
	left := part()
	for {
		sign := p.next().text
		if !p.takes(one) && !p.takes(other) {
			return left
		}
		right := part()
		left = &operation{sign, left, right}
	}
}

func (p *parser) factor() node {
	if p.takes("-") {
		return &negation{p.factor()}
	}
	base := p.atom()
	if p.takes("^") {
		return &power{base, p.exponent()}
	}
	return base
}

// exponent reads an integer whose absolute value is at most MaxPower.
func (p *parser) exponent() int {
	isNegative := p.takes("-")
	n, err := strconv.Atoi(p.take(numberToken))
	if err != nil || n > api.MaxPower {
		p.fail()
		return 0
	}
	if isNegative {
		return -n
	}
	return n
}

func (p *parser) atom() node {
	switch {
	case p.next().kind == numberToken:
		return p.literal()
	case p.takes("("):
		x := p.expression()
		p.expect(")")
		return x
	}
	name := p.take(nameToken)
	if p.takes("(") {
		return &call{name, p.args()}
	}
	return &use{name}
}

// args reads what follows the bracket of a call.
func (p *parser) args() []node {
	out := []node{p.expression()}
	for p.takes(",") {
		out = append(out, p.expression())
	}
	p.expect(")")
	return out
}

func (p *parser) literal() *literal {
	x := &literal{value: valueOf(p.take(numberToken))}
	x.hasUnits = p.takes("[")
	if !x.hasUnits {
		return x
	}
	x.units = append(x.units, p.unit())
	for !p.isWrong && !p.takes("]") {
		x.units = append(x.units, p.unit())
	}
	return x
}

func (p *parser) unit() factor {
	x := factor{p.take(nameToken), 1}
	if p.takes("^") {
		x.exponent = p.exponent()
	}
	return x
}

// valueOf returns the value of a number: its digits are few enough for an int.
func valueOf(text string) number.Ratio {
	whole, part, _ := strings.Cut(text, ".")
	top, _ := strconv.Atoi(whole + part)
	bottom := 1
	for range part {
		bottom *= 10
	}
	return number.New(number.Of(top), number.Of(bottom))
}
