package chars

import (
	"strings"
	"unicode/utf8"

	"motley/api"
)

// Lower returns a text of small forms.
func Lower(s string) (string, api.Errno) {
	return replaced(s, func(_ int, r rune) string { return string(small(r)) })
}

// Upper returns a text of capital forms.
func Upper(s string) (string, api.Errno) {
	return replaced(s, func(_ int, r rune) string { return capital(r) })
}

// Title returns a text that begins with a capital form, and goes on with small forms.
func Title(s string) (string, api.Errno) {
	return replaced(s, func(at int, r rune) string {
		if at > 0 {
			return string(small(r))
		}
		first, width := utf8.DecodeRuneInString(capital(r))
		return string(first) + smalls(capital(r)[width:])
	})
}

// Fold returns a text of folds.
func Fold(s string) (string, api.Errno) {
	return replaced(s, func(_ int, r rune) string { return fold(r) })
}

// SameFold reports whether the folds of two texts are equal.
func SameFold(s, t string) (bool, api.Errno) {
	if e := check(s, t); e != api.OK {
		return false, e
	}
	return folds(s) == folds(t), api.OK
}

// replaced returns a text with each character replaced by its form, which may depend on where it stands.
func replaced(s string, form func(at int, r rune) string) (string, api.Errno) {
	if e := check(s); e != api.OK {
		return "", e
	}
	t := mapped(s, form)
	if len(t) > api.MaxText {
		return "", api.ErrLarge
	}
	return t, api.OK
}

func mapped(s string, form func(at int, r rune) string) string {
	var b strings.Builder
	for at, r := range s {
		b.WriteString(form(at, r))
	}
	return b.String()
}

func smalls(s string) string {
	return mapped(s, func(_ int, r rune) string { return string(small(r)) })
}

func folds(s string) string {
	return mapped(s, func(_ int, r rune) string { return fold(r) })
}

func small(r rune) rune {
	switch {
	case r >= 0x41 && r <= 0x5A,
		r >= 0xC0 && r <= 0xDE && r != 0xD7,
		r >= 0x391 && r <= 0x3A9 && r != 0x3A2,
		r >= 0x410 && r <= 0x42F:
		return r + 0x20
	case r == 0x1E9E:
		return 0xDF
	case r == 0x212A:
		return 0x6B
	case r == 0x212B:
		return 0xE5
	}
	return r
}

func capital(r rune) string {
	switch {
	case r >= 0x61 && r <= 0x7A,
		r >= 0xE0 && r <= 0xFE && r != 0xF7,
		r >= 0x3B1 && r <= 0x3C9 && r != 0x3C2,
		r >= 0x430 && r <= 0x44F:
		return string(r - 0x20)
	case r == 0x3C2:
		return "\u03A3"
	case r == 0x17F:
		return "S"
	case r == 0xDF:
		return "SS"
	case r == 0x149:
		return "\u02BCN"
	}
	if t, ok := ligature(r); ok {
		return strings.ToUpper(t)
	}
	return string(r)
}

func fold(r rune) string {
	switch r {
	case 0xB5:
		return "\u03BC"
	case 0xDF, 0x1E9E:
		return "ss"
	case 0x149:
		return "\u02BCn"
	case 0x17F:
		return "s"
	case 0x3C2:
		return "\u03C3"
	}
	if t, ok := ligature(r); ok {
		return t
	}
	return string(small(r))
}

// ligature returns the small letters that a character joins, and false if it joins none.
func ligature(r rune) (string, bool) {
	switch r {
	case 0xFB00:
		return "ff", true
	case 0xFB01:
		return "fi", true
	case 0xFB02:
		return "fl", true
	case 0xFB03:
		return "ffi", true
	case 0xFB04:
		return "ffl", true
	case 0xFB05, 0xFB06:
		return "st", true
	}
	return "", false
}
