// Package num is layer 1: a scalar's two faces.
package num

import (
	"strconv"
	"strings"

	"motley/api"
)

// blanks are the bytes that may stand around a number in a text.
const blanks = "\t\n\r "

// Validate returns why x is no scalar.
func Validate(x api.Scalar) api.Errno {
	if len(x.S) > api.MaxText {
		return api.ErrLarge
	}
	if !isShaped(x) {
		return api.ErrArg
	}
	return api.OK
}

// NumberOf returns the number of a scalar.
func NumberOf(x api.Scalar) (int, api.Errno) {
	if e := Validate(x); e != api.OK {
		return 0, e
	}
	if x.Kind == api.Text {
		return numberIn(x.S), api.OK
	}
	return x.N, api.OK
}

// TextOf returns the text of a scalar.
func TextOf(x api.Scalar) (string, api.Errno) {
	if e := Validate(x); e != api.OK {
		return "", e
	}
	if x.Kind == api.Number {
		return strconv.Itoa(x.N), api.OK
	}
	return x.S, api.OK
}

// Truth reports whether a scalar is true.
func Truth(x api.Scalar) (bool, api.Errno) {
	s, e := TextOf(x)
	if e != api.OK {
		return false, e
	}
	return s != "" && s != "0", api.OK
}

// Looks reports whether a text is a number from its begin to its end.
func Looks(s string) bool {
	_, digits, rest := cut(s)
	return digits != "" && strings.Trim(rest, blanks) == ""
}

// isShaped reports whether the fields that x's kind does not name are 0 or empty, and N is a number.
func isShaped(x api.Scalar) bool {
	switch x.Kind {
	case api.Undef:
		return x.N == 0 && x.S == ""
	case api.Number:
		return isNumber(x.N) && x.S == ""
	case api.Text:
		return x.N == 0
	}
	return false
}

func isNumber(n int) bool {
	return n >= -api.MaxNum && n <= api.MaxNum
}

// size is the absolute value of a number.
func size(n int) int {
	return max(n, -n)
}

// numberIn is the number of a text.
func numberIn(s string) int {
	negative, digits, _ := cut(s)
	n := 0
	for i := range len(digits) {
		// Kept at MaxNum, n is still beyond it behind each further digit, and never overflows.
		n = min(n*10+int(digits[i]-'0'), api.MaxNum)
	}
	if negative {
		return -n
	}
	return n
}

// cut takes a text apart into its sign, the digits of its number, and what stands behind them.
func cut(s string) (negative bool, digits, rest string) {
	s = strings.TrimLeft(s, blanks)
	if s != "" && (s[0] == '+' || s[0] == '-') {
		negative = s[0] == '-'
		s = s[1:]
	}
	end := 0
	for end < len(s) && isDigit(s[end]) {
		end++
	}
	return negative, s[:end], s[end:]
}

func isDigit(c byte) bool {
	return c >= '0' && c <= '9'
}
