package works

import (
	"slices"
	"strconv"
	"strings"

	"cracknel/api"
	"cracknel/exact"
)

// A sort is what a word may be.
type sort int

const (
	aLine   sort = iota // all that follows, with its blanks
	aWord               // any word
	aNum                // a valid Num
	aNumber             // an integer of few digits
)

const mostDigits = 12

// An amount is how many words may follow the first ones.
type amount int

const (
	none  amount = iota
	many         // any number of them
	some         // one at least
	pairs        // an even number of them, two at least
)

// A form is what the words of a command may be.
type form struct {
	first []sort // the sorts of the first words
	more  amount
	of    sort // the sort of the words after them
}

// just returns the form of so many words.
func just(first ...sort) form { return form{first: first} }

// split returns the words of the text after a command's name.
func (f form) split(text string) []string {
	if slices.Contains(f.first, aLine) {
		return []string{text}
	}
	return strings.Split(text, " ")
}

// fits reports whether words have the form.
func (f form) fits(words []string) bool {
	n := len(f.first)
	if len(words) < n || !f.more.allows(len(words)-n) {
		return false
	}
	for i, word := range words {
		of := f.of
		if i < n {
			of = f.first[i]
		}
		if !of.has(word) {
			return false
		}
	}
	return true
}

// allows reports whether there may be so many words.
func (a amount) allows(n int) bool {
	switch a {
	case pairs:
		if n%2 != 0 {
			return false
		}
		fallthrough
	case some:
		if n == 0 {
			return false
		}
		fallthrough
	case many:
		return true
	}
	return n == 0
}

// has reports whether a word is of this sort: each sort is a part of the one that
// its case falls through to. No word is empty, so no two blanks follow each other.
func (s sort) has(word string) bool {
	switch s {
	case aNumber:
		digits := strings.TrimPrefix(word, "-")
		if len(digits) > mostDigits || strings.Contains(digits, "/") {
			return false
		}
		fallthrough
	case aNum:
		if exact.Check(api.Num(word)) != api.OK {
			return false
		}
		fallthrough
	default:
		return word != ""
	}
}

// numbers returns words of the sort aNumber as integers.
func numbers(words []string) []int {
	out := make([]int, len(words))
	for i, word := range words {
		out[i], _ = strconv.Atoi(word)
	}
	return out
}

// nums returns words of the sort aNum.
func nums(words []string) []api.Num {
	out := make([]api.Num, len(words))
	for i, word := range words {
		out[i] = api.Num(word)
	}
	return out
}
