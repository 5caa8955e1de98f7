package works

import (
	"strconv"
	"strings"

	"cracknel/api"
)

// failure returns the line that tells an error.
func failure(e api.Errno) string { return number("!", int(e)) }

// text returns a line: its first word, and what follows it.
func text(first string, list ...string) string {
	var out strings.Builder
	out.WriteString(first)
	for _, word := range list {
		out.WriteByte(' ')
		out.WriteString(word)
	}
	out.WriteByte('\n')
	return out.String()
}

// number returns a line with integers.
func number(first string, list ...int) string {
	words := make([]string, len(list))
	for i, n := range list {
		words[i] = strconv.Itoa(n)
	}
	return text(first, words...)
}

// value returns a line with Nums.
func value(first string, list ...api.Num) string {
	words := make([]string, len(list))
	for i, n := range list {
		words[i] = string(n)
	}
	return text(first, words...)
}
