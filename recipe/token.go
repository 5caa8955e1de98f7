package recipe

import (
	"strings"

	"cracknel/api"
)

// The kinds of tokens.
const (
	noToken = iota // what is behind the last one
	nameToken
	keyToken
	numberToken
	symbolToken
)

const symbols = "+-*/()[]^,<="

// mostDigits is how many digits a number has at most, those before and behind
// its point together.
const mostDigits = 12

// A token is a part of a line. No two kinds have a text in common.
type token struct {
	kind int
	text string
}

// scan returns the tokens of a line, or false if a byte belongs to none.
func scan(line string) ([]token, bool) {
	var out []token
	rest := strings.TrimLeft(line, " ")
	for rest != "" {
		next := first(rest)
		if next.kind == noToken {
			return nil, false
		}
		out = append(out, next)
		rest = strings.TrimLeft(rest[len(next.text):], " ")
	}
	return out, true
}

// first returns the token with which a text begins, or none.
func first(text string) token {
	switch {
	case isLetter(text[0]):
		return firstWord(text)
	case isDigit(text[0]):
		return firstNumber(text)
	case strings.IndexByte(symbols, text[0]) >= 0:
		return token{symbolToken, text[:1]}
	}
	return token{}
}

func isLetter(c byte) bool { return 'a' <= c && c <= 'z' }

func isDigit(c byte) bool { return '0' <= c && c <= '9' }

func firstWord(text string) token {
	size := 0
	for size < len(text) && (isLetter(text[size]) || isDigit(text[size])) {
		size++
	}
	word := text[:size]
	switch {
	case isKeyword(word):
		return token{keyToken, word}
	case size > api.MaxName:
		return token{}
	}
	return token{nameToken, word}
}

func isKeyword(word string) bool {
	switch word {
	case "unit", "let", "fun", "if", "then", "else":
		return true
	}
	return false
}

// firstNumber returns no token if a letter follows, either: a blank is missing.
func firstNumber(text string) token {
	size := digits(text)
	if size < len(text) && text[size] == '.' {
		size += 1 + digits(text[size+1:])
	}
	if !isNumber(text[:size]) || size < len(text) && isLetter(text[size]) {
		return token{}
	}
	return token{numberToken, text[:size]}
}

// digits returns the number of digits with which a text begins.
func digits(text string) int {
	n := 0
	for n < len(text) && isDigit(text[n]) {
		n++
	}
	return n
}

// isNumber reports whether digits, maybe with a point and further digits behind
// it, are a number.
func isNumber(text string) bool {
	whole, part, hasPoint := strings.Cut(text, ".")
	isLeading := whole != "0" && whole[0] == '0'
	return !isLeading && (part != "" || !hasPoint) && len(whole)+len(part) <= mostDigits
}
