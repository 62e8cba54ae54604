package num

import (
	"strconv"
	"strings"

	"motley/api"
)

// Next returns a text one further.
func Next(s string) (string, api.Errno) {
	if len(s) > api.MaxText {
		return "", api.ErrLarge
	}
	t := further(s)
	if len(t) > api.MaxText {
		return "", api.ErrLarge
	}
	return t, api.OK
}

// Range returns the texts from one on up to another one.
func Range(from, to string) ([]string, api.Errno) {
	if len(from) > api.MaxText || len(to) > api.MaxText {
		return nil, api.ErrLarge
	}
	var l []string
	// further, not Next: a text that is too long for Next ends the range as any text longer than to does.
	for s := from; len(s) <= len(to); s = further(s) {
		if len(l) == api.MaxItems {
			return nil, api.ErrLarge
		}
		l = append(l, s)
		if s == to {
			break
		}
	}
	return l, api.OK
}

// Repeat returns a text n times.
func Repeat(s string, n int) (string, api.Errno) {
	if len(s) > api.MaxText {
		return "", api.ErrLarge
	}
	if s == "" || n < 1 {
		return "", api.OK
	}
	if n > api.MaxText/len(s) {
		return "", api.ErrLarge
	}
	return strings.Repeat(s, n), api.OK
}

// further is Next of a text of any length.
func further(s string) string {
	if !isCounter(s) {
		return strconv.Itoa(min(numberIn(s)+1, api.MaxNum))
	}
	b := []byte(s)
	for i := len(b) - 1; i >= 0; i-- {
		switch b[i] {
		case 'z':
			b[i] = 'a'
		case 'Z':
			b[i] = 'A'
		case '9':
			b[i] = '0'
		default:
			b[i]++
			return string(b)
		}
	}
	return front(s[0]) + string(b)
}

// isCounter reports whether a text is letters and then digits, and not empty.
func isCounter(s string) bool {
	at := 0
	for at < len(s) && isLetter(s[at]) {
		at++
	}
	for at < len(s) && isDigit(s[at]) {
		at++
	}
	return s != "" && at == len(s)
}

// front is what is put in front of a text that began with c and is used up.
func front(c byte) string {
	switch c {
	case 'z':
		return "a"
	case 'Z':
		return "A"
	}
	return "1"
}

func isLetter(c byte) bool {
	return c >= 'a' && c <= 'z' || c >= 'A' && c <= 'Z'
}
