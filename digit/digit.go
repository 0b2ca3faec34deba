// Package digit is layer 1, numbers as text: see shared/doc/01-digit.md.
package digit

import (
	"math"
	"strings"

	"jurat/api"
)

const (
	// longest is how many bytes the longest text of an int has: a sign, and 19 digits.
	longest = 20
	// none is the text of a row without numbers.
	none = "-"
	// between stands between two numbers of a row.
	between = ","
)

// Text is a number's text.
func Text(n int) string {
	var digits [longest]byte
	at := len(digits) - 1
	rest := distance(n)
	for ; rest > 9; rest /= 10 {
		digits[at] = byte('0' + rest%10)
		at--
	}
	digits[at] = byte('0' + rest)
	if n < 0 {
		at--
		digits[at] = '-'
	}
	return string(digits[at:])
}

// distance is how far a number is from 0. It is unsigned, as the least int has no int that far above 0.
func distance(n int) uint {
	if n < 0 {
		return -uint(n)
	}
	return uint(n)
}

// Parse is the number of a text, if it lies between two.
func Parse(s string, least, most int) (int, api.Errno) {
	if !isText(s) {
		return 0, api.ErrForm
	}
	n, ok := value(s)
	if !ok || n < least || n > most {
		return 0, api.ErrRange
	}
	return n, api.OK
}

// isText is whether s is a number's text, of whatever number, be it an int or not.
func isText(s string) bool {
	digits := strings.TrimPrefix(s, "-")
	if digits == "" {
		return false
	}
	if digits[0] == '0' {
		return s == "0"
	}
	for i := range len(digits) {
		if digits[i] < '0' || digits[i] > '9' {
			return false
		}
	}
	return true
}

// value is the number of a number's text, if it is an int. It is reckoned below 0, where ints reach one further than above.
func value(s string) (int, bool) {
	digits, below := strings.CutPrefix(s, "-")
	n := 0
	for i := range len(digits) {
		d := int(digits[i] - '0')
		if n < (math.MinInt+d)/10 {
			return 0, false
		}
		n = n*10 - d
	}
	if below {
		return n, true
	}
	if n == math.MinInt {
		return 0, false
	}
	return -n, true
}

// Row is the text of numbers, one behind the other.
func Row(l []int) string {
	if len(l) == 0 {
		return none
	}
	var b strings.Builder
	for i, n := range l {
		if i > 0 {
			b.WriteString(between)
		}
		b.WriteString(Text(n))
	}
	return b.String()
}

// ParseRow is the numbers of a text, if each lies between two.
func ParseRow(s string, least, most int) ([]int, api.Errno) {
	if s == none {
		return nil, api.OK
	}
	var l []int
	for part := range strings.SplitSeq(s, between) {
		n, e := Parse(part, least, most)
		if e != api.OK {
			return nil, e
		}
		l = append(l, n)
	}
	return l, api.OK
}
