package chars_test

import (
	"math"
	"slices"
	"strings"
	"testing"
	"unicode/utf8"

	"motley/api"
	"motley/chars"
)

// long is a text of n bytes.
func long(c string, n int) string { return strings.Repeat(c, n) }

// filled is a text of exactly n bytes that begins with s.
func filled(s string, n int) string { return s + long("a", n-len(s)) }

// wrong has texts that are not valid, and how many bytes of each are.
var wrong = map[string]int{
	"\x80":                         0,
	"a\xff":                        1,
	"\xc0\x80":                     0, // overlong forms
	"\xc1\xbf":                     0,
	"ab\xe0\x80\x80":               2,
	"\xe0\x9f\xbf":                 0,
	"\xf0\x80\x80\x80":             0,
	"\xf0\x8f\xbf\xbf":             0,
	"a\xed\xa0\x80":                1, // surrogates
	"\xed\xbf\xbf":                 0,
	"\xf4\x90\x80\x80":             0, // beyond 10FFFF
	"\xf5\x80\x80\x80":             0,
	"\xc3":                         0, // characters that break off
	"\u00e9\xc3":                   2,
	"a\xe2\x82":                    1,
	"a\xe2":                        1,
	"\u20ac\xf0\x9f\x98":           3,
	"\xc3a":                        0,
	"\xe2\x82a":                    0,
	"\uFFFD\xff":                   3,
	"\xff\uFFFD":                   0,
	"\xef\xbf":                     0,
	"\xef\xbf\xbd\xef":             3,
	"a\xffb\xff":                   1,
	"\U0010FFFF\xed\xa0\x80\u00e9": 4,
}

// P2.1
func TestValid(t *testing.T) {
	for _, s := range []string{"", "a", "\x00", "\x7f", "\u0080", "\u07ff", "\u0800", "\ud7ff", "\ue000", "\uffff", "\uFFFD", "a\uFFFDb", "\U00010000", "\U0010FFFF", long("\u20ac", 5000)} {
		if n, ok := chars.Valid(s); n != len(s) || !ok {
			t.Errorf("Valid of %.20q: %d, %t", s, n, ok)
		}
	}
	for s, want := range wrong {
		if n, ok := chars.Valid(s); n != want || ok {
			t.Errorf("Valid of %q: %d, %t, not %d", s, n, ok, want)
		}
	}
	tooLong := long("a", api.MaxText+1)
	if n, ok := chars.Valid(tooLong + "\xff"); n != len(tooLong) || ok {
		t.Errorf("Valid of a long text: %d, %t", n, ok)
	}
}

// P2.1: all pairs and triples of bytes at which the forms of characters differ.
func TestValidAsDecoded(t *testing.T) {
	edges := []byte{0, 0x7f, 0x80, 0x8f, 0x90, 0x9f, 0xa0, 0xbf, 0xc0, 0xc1, 0xc2, 0xdf, 0xe0, 0xe1, 0xec, 0xed, 0xee, 0xef, 0xf0, 0xf1, 0xf3, 0xf4, 0xf5, 0xff}
	for _, a := range edges {
		for _, b := range edges {
			for _, c := range edges {
				for _, d := range edges {
					expectDecoded(t, string([]byte{a, b, c, d}))
				}
			}
		}
	}
}

func expectDecoded(t *testing.T, s string) {
	t.Helper()
	want := 0
	for want < len(s) {
		r, width := utf8.DecodeRuneInString(s[want:])
		if r == utf8.RuneError && width == 1 {
			break
		}
		want += width
	}
	if n, ok := chars.Valid(s); n != want || ok != utf8.ValidString(s) {
		t.Errorf("Valid of %q: %d, %t, not %d", s, n, ok, want)
	}
}

// texts calls each function with one text, and returns what it gives.
func texts(s string) map[string]answer {
	m := map[string]answer{}
	put := func(name string, zero bool, e api.Errno) { m[name] = answer{zero, e} }
	l, e := chars.Points(s)
	put("Points", len(l) == 0, e)
	for name, f := range map[string]func(string) (string, api.Errno){
		"Lower": chars.Lower, "Upper": chars.Upper, "Title": chars.Title, "Fold": chars.Fold,
		"Reverse": chars.Reverse, "Escape": chars.Escape, "Unescape": chars.Unescape,
		"Sub":            func(s string) (string, api.Errno) { return chars.Sub(s, 0, 1) },
		"Sub of nowhere": func(s string) (string, api.Errno) { return chars.Sub(s, math.MinInt, 1) },
	} {
		r, e := f(s)
		put(name, r == "", e)
	}
	for name, f := range map[string]func(string) (int, api.Errno){
		"Width":       chars.Width,
		"Index in":    func(s string) (int, api.Errno) { return chars.Index(s, "x", 0) },
		"Index of":    func(s string) (int, api.Errno) { return chars.Index("x", s, 0) },
		"Last in":     func(s string) (int, api.Errno) { return chars.Last(s, "x", 0) },
		"Last of":     func(s string) (int, api.Errno) { return chars.Last("x", s, 0) },
		"Last before": func(s string) (int, api.Errno) { return chars.Last(s, "x", -1) },
	} {
		n, e := f(s)
		put(name, n == 0, e)
	}
	is, e := chars.SameFold(s, s)
	put("SameFold", !is, e)
	is, e = chars.SameFold("", s)
	put("SameFold with", !is, e)
	return m
}

type answer struct {
	zero bool
	e    api.Errno
}

// P2.1: the errors of all functions with texts, and that they give nothing else (R3).
func TestTextsAreRefused(t *testing.T) {
	for s := range wrong {
		for name, a := range texts(s) {
			if a != (answer{true, api.ErrSyntax}) {
				t.Errorf("%s of %q: %v", name, s, a)
			}
		}
	}
	for _, s := range []string{long("a", api.MaxText+1), long("a", api.MaxText) + "\xff", long("\xff", api.MaxText+1), long("\\", api.MaxText+1)} {
		for name, a := range texts(s) {
			if a != (answer{true, api.ErrLarge}) {
				t.Errorf("%s of %.10q: %v", name, s, a)
			}
		}
	}
	for name, a := range texts(long("a", api.MaxText)) {
		if a.e != api.OK && name != "Sub of nowhere" {
			t.Errorf("%s of the longest text: %v", name, a)
		}
	}
}

// P2.1: all errors of the first text come before those of the second one.
func TestErrorsOfTwoTexts(t *testing.T) {
	large, bad := long("a", api.MaxText+1), "\xff"
	for _, c := range []struct {
		s, t string
		want api.Errno
	}{
		{large, bad, api.ErrLarge},
		{bad, large, api.ErrSyntax},
		{large, large, api.ErrLarge},
		{bad, bad, api.ErrSyntax},
		{"a", large, api.ErrLarge},
		{"a", bad, api.ErrSyntax},
		{large, "a", api.ErrLarge},
		{bad, "a", api.ErrSyntax},
	} {
		if is, e := chars.SameFold(c.s, c.t); is || e != c.want {
			t.Errorf("SameFold(%.5q, %.5q): %t, %d", c.s, c.t, is, e)
		}
		for _, from := range []int{math.MinInt, -1, 0, math.MaxInt} {
			if n, e := chars.Index(c.s, c.t, from); n != 0 || e != c.want {
				t.Errorf("Index(%.5q, %.5q, %d): %d, %d", c.s, c.t, from, n, e)
			}
			if n, e := chars.Last(c.s, c.t, from); n != 0 || e != c.want {
				t.Errorf("Last(%.5q, %.5q, %d): %d, %d", c.s, c.t, from, n, e)
			}
		}
	}
}

// P2.1
func TestPointsAndText(t *testing.T) {
	for s, want := range map[string][]int{
		"":                     nil,
		"ab":                   {0x61, 0x62},
		"\x00\x7f":             {0, 0x7F},
		"\u00e9\u20ac":         {0xE9, 0x20AC},
		"\uFFFD":               {0xFFFD},
		"\ud7ff\ue000":         {0xD7FF, 0xE000},
		"\U0010FFFF":           {0x10FFFF},
		"e\u0301":              {0x65, 0x301},
		long("a", api.MaxText): slices.Repeat([]int{0x61}, api.MaxText),
	} {
		if l, e := chars.Points(s); !slices.Equal(l, want) || e != api.OK {
			t.Errorf("Points of %.20q: %.20v, %d", s, l, e)
		}
		if got, e := chars.Text(want); got != s || e != api.OK {
			t.Errorf("Text of %.20v: %.20q, %d", want, got, e)
		}
	}
}

// P2.1: a list with something that is no character is refused for this, however large it is.
func TestTextIsRefused(t *testing.T) {
	for _, c := range []int{-1, 0xD800, 0xDABC, 0xDFFF, 0x110000, math.MaxInt, math.MinInt, 1 << 32, 1<<32 + 0x61, -1<<32 + 0x61} {
		for _, l := range [][]int{{c}, {0x61, c}, {c, 0x61}, append(slices.Repeat([]int{0x61}, 5000), c)} {
			if s, e := chars.Text(l); s != "" || e != api.ErrArg {
				t.Errorf("Text with %d: %q, %d", c, s, e)
			}
		}
	}
	for c, n := range map[int]int{0x61: 4097, 0xE9: 2049, 0x20AC: 1366, 0x10FFFF: 1025, 0: 100000} {
		if s, e := chars.Text(slices.Repeat([]int{c}, n)); s != "" || e != api.ErrLarge {
			t.Errorf("Text of %d times %x: %.10q, %d", n, c, s, e)
		}
	}
	if s, e := chars.Text(slices.Repeat([]int{0x10FFFF}, 1024)); len(s) != api.MaxText || e != api.OK {
		t.Errorf("Text of as much as fits: %d, %d", len(s), e)
	}
}

// P2.1 (Consequence.)
func TestTextOfPoints(t *testing.T) {
	for c := range 0x110000 {
		if c >= 0xD800 && c <= 0xDFFF {
			continue
		}
		l, e := chars.Points(string(rune(c)))
		if e != api.OK || !slices.Equal(l, []int{c}) {
			t.Fatalf("Points of %x: %x, %d", c, l, e)
		}
		if s, e := chars.Text(l); s != string(rune(c)) || e != api.OK {
			t.Fatalf("Text of %x: %q, %d", c, s, e)
		}
	}
}

// P1: nothing panics, whatever the arguments are.
func TestNothingPanics(t *testing.T) {
	ints := []int{math.MinInt, math.MinInt + 1, -1 << 32, -4097, -3, -1, 0, 1, 2, 3, 0xD800, 4096, 1 << 32, math.MaxInt - 1, math.MaxInt}
	all := []string{"", "a", "\u00e9\u20ac", "\\", `\x{`, `\x{}`, long("a", api.MaxText), long("a", api.MaxText+1)}
	for s := range wrong {
		all = append(all, s)
	}
	for _, s := range all {
		texts(s)
		for _, n := range ints {
			chars.Is(n, s)
			chars.Text([]int{n})
			for _, m := range ints {
				chars.Sub(s, n, m)
				chars.Index(s, all[1], n)
				chars.Last(s, all[2], m)
			}
		}
		chars.Spans(s)
	}
}
