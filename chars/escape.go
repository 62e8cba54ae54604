package chars

import (
	"strconv"
	"strings"

	"motley/api"
)

// mostDigits is how many digits the number of an escaped character has at most.
const mostDigits = 6

// Escape returns a text in which there are only characters from 20 to 7E.
func Escape(s string) (string, api.Errno) {
	return replaced(s, func(_ int, r rune) string { return escaped(r) })
}

// Unescape returns the text of an escaped one.
func Unescape(s string) (string, api.Errno) {
	if e := check(s); e != api.OK {
		return "", e
	}
	var b strings.Builder
	for {
		before, rest, found := strings.Cut(s, `\`)
		b.WriteString(before)
		if !found {
			return b.String(), api.OK
		}
		r, behind, ok := unescaped(rest)
		if !ok {
			return "", api.ErrSyntax
		}
		b.WriteRune(r)
		s = behind
	}
}

func escaped(r rune) string {
	switch {
	case r == '\\':
		return `\\`
	case r < 0x20 || r > 0x7E:
		return `\x{` + strconv.FormatInt(int64(r), 16) + `}`
	}
	return string(r)
}

// unescaped reads a character behind a backslash: it returns it, and what stands behind it.
func unescaped(s string) (rune, string, bool) {
	if behind, ok := strings.CutPrefix(s, `\`); ok {
		return '\\', behind, true
	}
	inner, ok := strings.CutPrefix(s, `x{`)
	if !ok {
		return 0, "", false
	}
	digits, behind, ok := strings.Cut(inner, `}`)
	if !ok || len(digits) > mostDigits {
		return 0, "", false
	}
	n, err := strconv.ParseUint(digits, 16, 32)
	if err != nil || isNoCharacter(int(n)) {
		return 0, "", false
	}
	return rune(n), behind, true
}
