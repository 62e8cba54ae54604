package num_test

import (
	"math"
	"slices"
	"strconv"
	"testing"

	"motley/api"
	"motley/num"
)

// P1.3
func TestNext(t *testing.T) {
	for s, want := range map[string]string{
		"a":                    "b",
		"y":                    "z",
		"z":                    "aa",
		"Z":                    "AA",
		"9":                    "10",
		"0":                    "1",
		"az":                   "ba",
		"zz":                   "aaa",
		"Az":                   "Ba",
		"zZ":                   "aaA",
		"Zz":                   "AAa",
		"Zz9":                  "AAa0",
		"zZ9":                  "aaA0",
		"a9":                   "b0",
		"z9":                   "aa0",
		"a09":                  "a10",
		"zz99":                 "aaa00",
		"099":                  "100",
		"999":                  "1000",
		"00":                   "01",
		mostStr:                "9007199254740993",
		long("9", 20):          "1" + long("0", 20),
		"":                     "1",
		"a-b":                  "1",
		"a1b":                  "1",
		"12a":                  "13",
		"9a":                   "10",
		"-1":                   "0",
		"-10":                  "-9",
		"+9":                   "10",
		" 9":                   "10",
		"9 ":                   "10",
		"\u00e9":               "1",
		"a\u00e9":              "1",
		"a_":                   "1",
		"@":                    "1",
		"[":                    "1",
		"`":                    "1",
		"{":                    "1",
		":":                    "1",
		"/":                    "1",
		"9/":                   "10",
		"+" + mostStr:          mostStr,
		mostStr + "a":          mostStr,
		"+9007199254740991":    mostStr,
		" " + long("9", 30):    mostStr,
		"-" + mostStr:          "-9007199254740991",
		"-" + long("9", 30):    "-9007199254740991",
		long("a", api.MaxText): long("a", api.MaxText-1) + "b",
		long("-", api.MaxText): "1",
	} {
		if got, e := num.Next(s); got != want || e != api.OK {
			t.Errorf("Next of %.40q: %.40q, %d, not %.40q", s, got, e, want)
		}
	}
	for _, s := range []string{long("z", api.MaxText), long("Z", api.MaxText), long("9", api.MaxText), long("a", api.MaxText+1), long("-", api.MaxText+1)} {
		if got, e := num.Next(s); got != "" || e != api.ErrLarge {
			t.Errorf("Next of %.10q: %.10q, %d", s, got, e)
		}
	}
}

// upTo is the texts of the numbers from one on up to another one.
func upTo(from, to int) []string {
	var l []string
	for n := from; n <= to; n++ {
		l = append(l, strconv.Itoa(n))
	}
	return l
}

// P1.3
func TestRange(t *testing.T) {
	zs := long("z", api.MaxText)
	cases := []struct {
		from, to string
		want     []string
	}{
		{"x", "ab", []string{"x", "y", "z", "aa", "ab"}},
		{"a", "a", []string{"a"}},
		{"", "", []string{""}},
		{"", "3", []string{"", "1", "2", "3"}},
		{"aa", "", nil},
		{"aa", "b", nil},
		{"x", "c", []string{"x", "y", "z"}},
		{"x", "-", []string{"x", "y", "z"}},
		{"5", "3", []string{"5", "6", "7", "8", "9"}},
		{"08", "11", []string{"08", "09", "10", "11"}},
		{"a8", "b1", []string{"a8", "a9", "b0", "b1"}},
		{"Zx", "99", []string{"Zx", "Zy", "Zz"}},
		{"-2", "1", nil},
		{"-2", "01", append([]string{"-2", "-1"}, upTo(0, 99)...)},
		{"-2", "10", upTo(-2, 10)},
		{"-", "-", []string{"-"}},
		{"-", "2", []string{"-", "1", "2"}},
		{"1", "200", upTo(1, 200)},
		{"800", "1", nil},
		{"800", "000", upTo(800, 999)},
		{"+" + mostStr, "+" + mostStr, []string{"+" + mostStr}},
		{zs, zs, []string{zs}},
		{zs, long("a", api.MaxText), []string{zs}},
	}
	for _, c := range cases {
		if got, e := num.Range(c.from, c.to); !slices.Equal(got, c.want) || e != api.OK {
			t.Errorf("Range(%.20q, %.20q): %.60q, %d", c.from, c.to, got, e)
		}
	}
}

// P1.3
func TestRangeIsLarge(t *testing.T) {
	tooLong := long("a", api.MaxText+1)
	for _, c := range [][2]string{
		{"1", "201"},
		{"799", "000"},
		{"a", "zzz"},
		{"Zy", "zz9"},
		{"+" + mostStr, "+" + mostStr + "0"},
		{"a", tooLong},
		{tooLong, "a"},
		{tooLong, tooLong},
		{"", long("a", api.MaxText)},
	} {
		if got, e := num.Range(c[0], c[1]); len(got) != 0 || e != api.ErrLarge {
			t.Errorf("Range(%.20q, %.20q): %.60q, %d", c[0], c[1], got, e)
		}
	}
}

// P1.3: each text of a range is the Next of the one before.
func TestRangeGoesByNext(t *testing.T) {
	for _, c := range [][2]string{{"x", "bz"}, {"a95", "b12"}, {"-8", "17"}, {"Az", "Cc"}} {
		l, e := num.Range(c[0], c[1])
		if e != api.OK || len(l) == 0 || l[0] != c[0] {
			t.Fatalf("Range%q: %q, %d", c, l, e)
		}
		for i, s := range l[1:] {
			if next, _ := num.Next(l[i]); next != s {
				t.Errorf("Range%q: %q behind %q", c, s, l[i])
			}
		}
	}
}

// P1.4
func TestRepeat(t *testing.T) {
	cases := []struct {
		s    string
		n    int
		want string
	}{
		{"ab", 3, "ababab"},
		{"ab", 1, "ab"},
		{"ab", 0, ""},
		{"ab", -1, ""},
		{"ab", math.MinInt, ""},
		{"", 0, ""},
		{"", 5, ""},
		{"", math.MaxInt, ""},
		{"\xff", 2, "\xff\xff"},
		{"a", api.MaxText, long("a", api.MaxText)},
		{"abc", 1365, long("abc", 1365)},
		{long("a", api.MaxText), 1, long("a", api.MaxText)},
		{long("a", api.MaxText), 0, ""},
	}
	for _, c := range cases {
		if got, e := num.Repeat(c.s, c.n); got != c.want || e != api.OK {
			t.Errorf("Repeat(%.10q, %d): %.10q, %d", c.s, c.n, got, e)
		}
	}
	tooLong := long("a", api.MaxText+1)
	for s, n := range map[string]int{"a": api.MaxText + 1, "ab": math.MaxInt, "abc": 1366, "abcd": 1 << 62, long("a", api.MaxText): 2, tooLong: 1, tooLong + "b": 0, tooLong + "c": -1} {
		if got, e := num.Repeat(s, n); got != "" || e != api.ErrLarge {
			t.Errorf("Repeat(%.10q, %d): %.10q, %d", s, n, got, e)
		}
	}
}
