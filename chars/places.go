package chars

import (
	"slices"
	"strings"
	"unicode/utf8"

	"motley/api"
)

// Width returns the number of characters of a text.
func Width(s string) (int, api.Errno) {
	if e := check(s); e != api.OK {
		return 0, e
	}
	return utf8.RuneCountInString(s), api.OK
}

// Sub returns a part of a text: n characters from a place on, or all but -n.
func Sub(s string, from, n int) (string, api.Errno) {
	if e := check(s); e != api.OK {
		return "", e
	}
	width := utf8.RuneCountInString(s)
	if from < 0 {
		from += width
	}
	if from < 0 || from > width {
		return "", api.ErrArg
	}
	// n is compared with what is left, as from + n may be too great for an int.
	to := width
	if n < 0 {
		to = max(width+n, from)
	} else if n < width-from {
		to = from + n
	}
	return s[offset(s, from):offset(s, to)], api.OK
}

// Index returns the first place from one on at which t stands in s, or -1.
func Index(s, t string, from int) (int, api.Errno) {
	if e := check(s, t); e != api.OK {
		return 0, e
	}
	begin := offset(s, max(from, 0))
	at := strings.Index(s[begin:], t)
	if at < 0 {
		return -1, api.OK
	}
	return utf8.RuneCountInString(s[:begin+at]), api.OK
}

// Last returns the last place up to one at which t stands in s, or -1.
func Last(s, t string, from int) (int, api.Errno) {
	if e := check(s, t); e != api.OK {
		return 0, e
	}
	if from < 0 {
		return -1, api.OK
	}
	end := min(offset(s, from)+len(t), len(s))
	at := strings.LastIndex(s[:end], t)
	if at < 0 {
		return -1, api.OK
	}
	return utf8.RuneCountInString(s[:at]), api.OK
}

// Reverse returns the characters of a text in the opposite order.
func Reverse(s string) (string, api.Errno) {
	if e := check(s); e != api.OK {
		return "", e
	}
	l := points(s)
	slices.Reverse(l)
	return Text(l)
}

// offset is how many bytes stand before a place of a text (beyond its end: all).
func offset(s string, place int) int {
	for at := range s {
		if place == 0 {
			return at
		}
		place--
	}
	return len(s)
}
