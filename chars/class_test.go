package chars_test

import (
	"math"
	"slices"
	"strconv"
	"strings"
	"testing"

	"motley/api"
	"motley/chars"
)

// The classes in the words of the chapter.
const (
	upperWords = "41 to 5A, C0 to DE but D7, 391 to 3A9 but 3A2, 410 to 42F, 1E9E, 212A, 212B"
	lowerWords = "61 to 7A, B5, DF to FF but F7, 149, 17F, 3B1 to 3C9, 430 to 44F, FB00 to FB06"
	otherWords = "AA, BA, 2BC"
	digitWords = "30 to 39, 660 to 669"
	markWords  = "300 to 36F"
	blankWords = "9 to D, 20, 85, A0, 2028, 2029"
	lineWords  = "5F"
)

// hex is a number that is written in hexadecimal digits.
func hex(s string) int {
	n, err := strconv.ParseInt(s, 16, 32)
	if err != nil {
		panic(err)
	}
	return int(n)
}

// among reports whether c is one of what words name.
func among(c int, words string) bool {
	for _, part := range strings.Split(words, ", ") {
		part, but, without := strings.Cut(part, " but ")
		from, to, isSpan := strings.Cut(part, " to ")
		if !isSpan {
			to = from
		}
		if c >= hex(from) && c <= hex(to) && !(without && c == hex(but)) {
			return true
		}
	}
	return false
}

// isOf reports by the words of the chapter whether a character is of a class.
func isOf(c int, class string) bool {
	switch class {
	case "upper":
		return among(c, upperWords)
	case "lower":
		return among(c, lowerWords)
	case "letter":
		return isOf(c, "upper") || isOf(c, "lower") || among(c, otherWords)
	case "digit":
		return among(c, digitWords)
	case "mark":
		return among(c, markWords)
	case "blank":
		return among(c, blankWords)
	case "word":
		return isOf(c, "letter") || isOf(c, "digit") || isOf(c, "mark") || among(c, lineWords)
	}
	return true
}

func classNames() []string {
	return []string{"upper", "lower", "letter", "digit", "mark", "blank", "word", "any"}
}

// looked is all characters around those that the chapter names, and some of the others.
func looked() []int {
	var l []int
	for c := range 0x2200 {
		l = append(l, c)
	}
	for c := 0xFA00; c < 0xFC00; c++ {
		l = append(l, c)
	}
	for c := 0x2201; c <= 0x10FFFF; c += 97 {
		if c < 0xD800 || c > 0xDFFF {
			l = append(l, c)
		}
	}
	return append(l, 0xD7FF, 0xE000, 0xFFFD, 0xFFFF, 0x10000, 0x10041, 0x10FFFF)
}

// P2.2
func TestIs(t *testing.T) {
	for _, class := range classNames() {
		for _, c := range looked() {
			if is, e := chars.Is(c, class); is != isOf(c, class) || e != api.OK {
				t.Errorf("Is(%x, %s): %t, %d", c, class, is, e)
			}
		}
	}
}

// P2.2: a class that there is not is named before what is no character.
func TestIsRefused(t *testing.T) {
	bad := []int{-1, 0xD800, 0xDFFF, 0x110000, math.MaxInt, math.MinInt, 1 << 32, 1<<32 + 0x41, -1<<32 + 0x41}
	for _, c := range bad {
		for _, class := range classNames() {
			if is, e := chars.Is(c, class); is || e != api.ErrArg {
				t.Errorf("Is(%x, %s): %t, %d", c, class, is, e)
			}
		}
	}
	for _, class := range []string{"", "Upper", "upper ", "letters", "\xff", "none"} {
		for _, c := range append(bad, 0x41) {
			if is, e := chars.Is(c, class); is || e != api.ErrNone {
				t.Errorf("Is(%x, %q): %t, %d", c, class, is, e)
			}
		}
		if l, e := chars.Spans(class); len(l) != 0 || e != api.ErrNone {
			t.Errorf("Spans(%q): %v, %d", class, l, e)
		}
	}
}

// P2.2
func TestSpans(t *testing.T) {
	for class, want := range map[string][][2]int{
		"upper":  {{0x41, 0x5A}, {0xC0, 0xD6}, {0xD8, 0xDE}, {0x391, 0x3A1}, {0x3A3, 0x3A9}, {0x410, 0x42F}, {0x1E9E, 0x1E9E}, {0x212A, 0x212B}},
		"lower":  {{0x61, 0x7A}, {0xB5, 0xB5}, {0xDF, 0xF6}, {0xF8, 0xFF}, {0x149, 0x149}, {0x17F, 0x17F}, {0x3B1, 0x3C9}, {0x430, 0x44F}, {0xFB00, 0xFB06}},
		"letter": {{0x41, 0x5A}, {0x61, 0x7A}, {0xAA, 0xAA}, {0xB5, 0xB5}, {0xBA, 0xBA}, {0xC0, 0xD6}, {0xD8, 0xF6}, {0xF8, 0xFF}, {0x149, 0x149}, {0x17F, 0x17F}, {0x2BC, 0x2BC}, {0x391, 0x3A1}, {0x3A3, 0x3A9}, {0x3B1, 0x3C9}, {0x410, 0x44F}, {0x1E9E, 0x1E9E}, {0x212A, 0x212B}, {0xFB00, 0xFB06}},
		"digit":  {{0x30, 0x39}, {0x660, 0x669}},
		"mark":   {{0x300, 0x36F}},
		"blank":  {{0x9, 0xD}, {0x20, 0x20}, {0x85, 0x85}, {0xA0, 0xA0}, {0x2028, 0x2029}},
		"any":    {{0, 0xD7FF}, {0xE000, 0x10FFFF}},
	} {
		l, e := chars.Spans(class)
		if e != api.OK || !slices.EqualFunc(l, want, isSpan) {
			t.Errorf("Spans(%s): %x, %d", class, l, e)
		}
	}
}

func isSpan(s api.Span, bounds [2]int) bool { return s == api.Span{Lo: bounds[0], Hi: bounds[1]} }

// P2.2: the spans have just the characters of the class, with something that is none of it between any two.
func TestSpansAreTheClass(t *testing.T) {
	for _, class := range classNames() {
		l, e := chars.Spans(class)
		if e != api.OK {
			t.Fatalf("Spans(%s): %d", class, e)
		}
		for i, s := range l {
			if s.Lo > s.Hi || i > 0 && s.Lo <= l[i-1].Hi+1 {
				t.Errorf("Spans(%s): %x", class, l)
			}
		}
		for _, c := range looked() {
			in := slices.ContainsFunc(l, func(s api.Span) bool { return s.Lo <= c && c <= s.Hi })
			if in != isOf(c, class) {
				t.Errorf("Spans(%s) has %x: %t", class, c, in)
			}
		}
	}
}

// P2.2: what one call gives is not what the next one gives (R5).
func TestSpansAreNew(t *testing.T) {
	for _, class := range classNames() {
		l, _ := chars.Spans(class)
		for i := range l {
			l[i] = api.Span{}
		}
		if m, _ := chars.Spans(class); slices.Equal(l, m) {
			t.Errorf("Spans(%s) were changed", class)
		}
	}
}
