package chars_test

import (
	"math"
	"math/big"
	"slices"
	"testing"

	"motley/api"
	"motley/chars"
)

// P2.3
func TestWidth(t *testing.T) {
	for s, want := range map[string]int{
		"": 0, "abc": 3, "\u00e9": 1, "e\u0301": 2, "\u20ac\U0001F600x": 3, "\x00": 1, "\uFFFD": 1,
		long("a", api.MaxText): api.MaxText, long("\U0010FFFF", 1024): 1024,
	} {
		if n, e := chars.Width(s); n != want || e != api.OK {
			t.Errorf("Width of %.20q: %d, %d", s, n, e)
		}
	}
}

func places() []int {
	return []int{math.MinInt, math.MinInt + 1, -1 << 33, -7, -6, -5, -4, -3, -2, -1, 0, 1, 2, 3, 4, 5, 6, 7, 1 << 33, math.MaxInt - 1, math.MaxInt}
}

// subOf is Sub by the words of the chapter, in numbers without a limit.
func subOf(l []int, from, n int) ([]int, bool) {
	width, place, end := big.NewInt(int64(len(l))), big.NewInt(int64(from)), big.NewInt(int64(n))
	if place.Sign() < 0 {
		place.Add(place, width)
	}
	if place.Sign() < 0 || place.Cmp(width) > 0 {
		return nil, false
	}
	if end.Sign() < 0 {
		end.Add(end, width)
	} else {
		end.Add(end, place)
	}
	var out []int
	for i, c := range l {
		at := big.NewInt(int64(i))
		if at.Cmp(place) >= 0 && at.Cmp(end) < 0 {
			out = append(out, c)
		}
	}
	return out, true
}

// P2.3
func TestSub(t *testing.T) {
	for _, c := range []struct {
		s       string
		from, n int
		want    string
	}{
		{"abcde", -3, 2, "cd"},
		{"abcde", 1, -1, "bcd"},
		{"abcde", 0, 5, "abcde"},
		{"abcde", 5, 1, ""},
		{"abcde", -5, 1, "a"},
		{"abcde", 3, -2, ""},
		{"abcde", 3, -3, ""},
		{"", 0, 1, ""},
		{"", 0, -1, ""},
		{"a\u00e9\u20ac\U0001F600e", 1, 3, "\u00e9\u20ac\U0001F600"},
	} {
		if got, e := chars.Sub(c.s, c.from, c.n); got != c.want || e != api.OK {
			t.Errorf("Sub(%q, %d, %d): %q, %d", c.s, c.from, c.n, got, e)
		}
	}
	for _, c := range []struct {
		s    string
		from int
	}{{"abcde", 6}, {"abcde", -6}, {"", 1}, {"", -1}, {"\u00e9", 2}, {"\u00e9", -2}} {
		if got, e := chars.Sub(c.s, c.from, 1); got != "" || e != api.ErrArg {
			t.Errorf("Sub(%q, %d, 1): %q, %d", c.s, c.from, got, e)
		}
	}
}

// P2.3: all places and numbers around the ones of short texts.
func TestSubAsTold(t *testing.T) {
	for _, s := range []string{"", "a", "abcde", "a\u00e9\u20ac\U0001F600e"} {
		l, _ := chars.Points(s)
		for _, from := range places() {
			for _, n := range places() {
				want, ok := subOf(l, from, n)
				got, e := chars.Sub(s, from, n)
				if !ok && (got != "" || e != api.ErrArg) {
					t.Errorf("Sub(%q, %d, %d): %q, %d", s, from, n, got, e)
				}
				points, _ := chars.Points(got)
				if ok && (!slices.Equal(points, want) || e != api.OK) {
					t.Errorf("Sub(%q, %d, %d): %q, %d", s, from, n, got, e)
				}
			}
		}
	}
}

// standsAt reports whether t stands at a place of s.
func standsAt(s, t []int, at int) bool {
	return at+len(t) <= len(s) && slices.Equal(s[at:at+len(t)], t)
}

// indexOf and lastOf are Index and Last by the words of the chapter.
func indexOf(s, t []int, from int) int {
	for at := min(max(from, 0), len(s)); at <= len(s); at++ {
		if standsAt(s, t, at) {
			return at
		}
	}
	return -1
}

func lastOf(s, t []int, from int) int {
	for at := min(from, len(s)); at >= 0; at-- {
		if standsAt(s, t, at) {
			return at
		}
	}
	return -1
}

// P2.3
func TestIndexAndLast(t *testing.T) {
	texts := []string{"", "a", "b", "aa", "ab", "ba", "aaa", "abab", "babab", "\u00e9", "\u00e8", "a\u00e9a\u00e9", "\u00e9a", "\u20ac\u20ac", "\U0001F600a\U0001F600", "abcdef"}
	for _, s := range texts {
		for _, u := range texts {
			l, _ := chars.Points(s)
			m, _ := chars.Points(u)
			for _, from := range places() {
				if n, e := chars.Index(s, u, from); n != indexOf(l, m, from) || e != api.OK {
					t.Errorf("Index(%q, %q, %d): %d, %d", s, u, from, n, e)
				}
				if n, e := chars.Last(s, u, from); n != lastOf(l, m, from) || e != api.OK {
					t.Errorf("Last(%q, %q, %d): %d, %d", s, u, from, n, e)
				}
			}
		}
	}
}

// P2.3: the empty text stands at every place, also behind the last character.
func TestPlacesOfNothing(t *testing.T) {
	for from, want := range map[int]int{math.MinInt: 0, -1: 0, 0: 0, 1: 1, 3: 3, 4: 3, math.MaxInt: 3} {
		if n, e := chars.Index("a\u00e9c", "", from); n != want || e != api.OK {
			t.Errorf("Index from %d: %d, %d", from, n, e)
		}
	}
	for from, want := range map[int]int{math.MinInt: -1, -1: -1, 0: 0, 1: 1, 3: 3, 4: 3, math.MaxInt: 3} {
		if n, e := chars.Last("a\u00e9c", "", from); n != want || e != api.OK {
			t.Errorf("Last from %d: %d, %d", from, n, e)
		}
	}
}

// P2.3
func TestReverse(t *testing.T) {
	for s, want := range map[string]string{
		"": "", "a": "a", "abc": "cba", "\u00e9\u20ac\U0001F600": "\U0001F600\u20ac\u00e9", "e\u0301": "\u0301e", "a\uFFFD": "\uFFFDa",
		long("ab", api.MaxText/2): long("ba", api.MaxText/2),
	} {
		expect(t, "Reverse", chars.Reverse, s, want)
		expect(t, "Reverse", chars.Reverse, want, s)
	}
}
