package number

import (
	"strconv"
	"strings"

	"cracknel/api"
)

const (
	// As many decimal digits as fit into every word, and their number of values.
	wordDigits = 19
	wordValues = 10_000_000_000_000_000_000
)

// Digits returns how many digits a valid Num has in its numerator or in its
// denominator, whichever has more of them.
func Digits(x api.Num) int {
	top, bottom, _ := strings.Cut(strings.TrimPrefix(string(x), "-"), "/")
	return max(len(top), len(bottom))
}

// parseNatural reads a number of 1 to MaxDigits digits without leading zeros.
func parseNatural(s string) (natural, bool) {
	if s == "" || len(s) > api.MaxDigits || s[0] == '0' && len(s) > 1 {
		return nil, false
	}
	out := make(natural, 0, len(s)/wordDigits+1)
	for len(s) > 0 {
		size := (len(s)-1)%wordDigits + 1
		part, ok := parseWord(s[:size])
		if !ok {
			return nil, false
		}
		s = s[size:]
		if carry := multiplyAdd(out, wordValues, part); carry != 0 {
			out = append(out, carry)
		}
	}
	return out, true
}

func parseWord(s string) (uint64, bool) {
	var w uint64
	for i := range len(s) {
		if s[i] < '0' || s[i] > '9' {
			return 0, false
		}
		w = 10*w + uint64(s[i]-'0')
	}
	return w, true
}

// text returns an Integer in decimal, or false if it has more than MaxDigits
// digits.
func (a Integer) text() (string, bool) {
	if a.isSmall() {
		return strconv.FormatInt(a.small, 10), true
	}
	text, ok := a.size.text()
	if !ok {
		return "", false
	}
	if a.small < 0 {
		text = "-" + text
	}
	return text, true
}

// isShort reports whether an Integer has at most MaxDigits digits.
func (a Integer) isShort() bool {
	bits := a.size.bits()
	// A digit is log2(10) bits, which is between 3.32192 and 3.32193.
	if a.isSmall() || bits*100000 <= api.MaxDigits*332192 {
		return true
	}
	if (bits-1)*100000 >= api.MaxDigits*332193 {
		return false
	}
	_, ok := a.text()
	return ok
}

// text returns the digits of a natural, or false if there are more than
// MaxDigits of them.
func (a natural) text() (string, bool) {
	// A digit takes less than four bits.
	if a.bits() > 4*api.MaxDigits {
		return "", false
	}
	rest := make(natural, len(a))
	copy(rest, a)
	var parts []uint64
	for len(rest) > 1 {
		parts = append(parts, divideBy(rest, wordValues))
		rest = rest.trimmed()
	}
	var first uint64
	if len(rest) > 0 {
		first = rest[0]
	}
	digits := strconv.AppendUint(make([]byte, 0, wordDigits*(len(parts)+1)), first, 10)
	for i := len(parts) - 1; i >= 0; i-- {
		part := strconv.FormatUint(parts[i], 10)
		digits = append(digits, strings.Repeat("0", wordDigits-len(part))...)
		digits = append(digits, part...)
	}
	return string(digits), len(digits) <= api.MaxDigits
}
