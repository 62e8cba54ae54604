package chars

import (
	"cmp"
	"slices"

	"motley/api"
)

type span struct{ lo, hi int32 }

// A row has spans of characters; the ones at its end that are 0 are none.
type row [9]span

// Is reports whether a character is of a class.
func Is(c int, class string) (bool, api.Errno) {
	l, ok := rows(class)
	if !ok {
		return false, api.ErrNone
	}
	if isNoCharacter(c) {
		return false, api.ErrArg
	}
	for _, r := range l {
		if r.has(int32(c)) {
			return true, api.OK
		}
	}
	return false, api.OK
}

// Spans returns the spans of a class.
func Spans(class string) ([]api.Span, api.Errno) {
	all, ok := rows(class)
	if !ok {
		return nil, api.ErrNone
	}
	var l []api.Span
	for _, r := range all {
		l = r.appendTo(l)
	}
	slices.SortFunc(l, func(a, b api.Span) int { return cmp.Compare(a.Lo, b.Lo) })
	return joined(l), api.OK
}

// rows returns the rows of a class, and false if there is none with the name.
func rows(class string) ([]row, bool) {
	all := map[string]row{
		"upper": {
			{0x41, 0x5A}, {0xC0, 0xD6}, {0xD8, 0xDE}, {0x391, 0x3A1}, {0x3A3, 0x3A9},
			{0x410, 0x42F}, {0x1E9E, 0x1E9E}, {0x212A, 0x212B},
		},
		"lower": {
			{0x61, 0x7A}, {0xB5, 0xB5}, {0xDF, 0xF6}, {0xF8, 0xFF}, {0x149, 0x149},
			{0x17F, 0x17F}, {0x3B1, 0x3C9}, {0x430, 0x44F}, {0xFB00, 0xFB06},
		},
		"letter": {{0xAA, 0xAA}, {0xBA, 0xBA}, {0x2BC, 0x2BC}},
		"digit":  {{0x30, 0x39}, {0x660, 0x669}},
		"mark":   {{0x300, 0x36F}},
		"blank":  {{0x9, 0xD}, {0x20, 0x20}, {0x85, 0x85}, {0xA0, 0xA0}, {0x2028, 0x2029}},
		"word":   {{0x5F, 0x5F}},
		"any":    {{0x0, 0xD7FF}, {0xE000, 0x10FFFF}},
	}
	own, ok := all[class]
	if !ok {
		return nil, false
	}
	l := append(make([]row, 0, 6), own)
	if class == "word" {
		l = append(l, all["letter"], all["digit"], all["mark"])
	}
	if class == "word" || class == "letter" {
		l = append(l, all["upper"], all["lower"])
	}
	return l, true
}

func (r row) has(c int32) bool {
	for _, s := range r {
		if s != (span{}) && s.lo <= c && c <= s.hi {
			return true
		}
	}
	return false
}

func (r row) appendTo(l []api.Span) []api.Span {
	for _, s := range r {
		if s != (span{}) {
			l = append(l, api.Span{Lo: int(s.lo), Hi: int(s.hi)})
		}
	}
	return l
}

// joined makes one span of those that touch each other; they are in ascending order, and none overlaps another one.
func joined(l []api.Span) []api.Span {
	var out []api.Span
	for _, s := range l {
		if last := len(out) - 1; last >= 0 && out[last].Hi+1 == s.Lo {
			out[last].Hi = s.Hi
			continue
		}
		out = append(out, s)
	}
	return out
}
