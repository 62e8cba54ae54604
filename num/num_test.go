package num_test

import (
	"math"
	"strings"
	"testing"

	"motley/api"
	"motley/num"
)

const (
	most    = api.MaxNum
	mostStr = "9007199254740992"
)

// long is a text of n bytes.
func long(c string, n int) string { return strings.Repeat(c, n) }

func text(s string) api.Scalar { return api.Scalar{Kind: api.Text, S: s} }

func number(n int) api.Scalar { return api.Scalar{Kind: api.Number, N: n} }

// P1.1
func TestValidate(t *testing.T) {
	cases := []struct {
		name string
		x    api.Scalar
		want api.Errno
	}{
		{"nothing", api.Scalar{}, api.OK},
		{"zero", number(0), api.OK},
		{"greatest", number(most), api.OK},
		{"least", number(-most), api.OK},
		{"empty", text(""), api.OK},
		{"bytes that are no characters", text("\xff\x00"), api.OK},
		{"longest", text(long("a", api.MaxText)), api.OK},
		{"tainted nothing", api.Scalar{Taint: true}, api.OK},
		{"tainted number", api.Scalar{Kind: api.Number, N: 1, Taint: true}, api.OK},
		{"tainted text", api.Scalar{Kind: api.Text, S: "a", Taint: true}, api.OK},
		{"too long", text(long("a", api.MaxText+1)), api.ErrLarge},
		{"too long, and with a number", api.Scalar{Kind: api.Text, N: 1, S: long("a", api.MaxText+1)}, api.ErrLarge},
		{"too long, of no kind", api.Scalar{Kind: 9, S: long("a", api.MaxText+1)}, api.ErrLarge},
		{"too great", number(most + 1), api.ErrArg},
		{"too small", number(-most - 1), api.ErrArg},
		{"greatest int", number(math.MaxInt), api.ErrArg},
		{"least int", number(math.MinInt), api.ErrArg},
		{"nothing with a number", api.Scalar{N: 1}, api.ErrArg},
		{"nothing with a text", api.Scalar{S: "a"}, api.ErrArg},
		{"number with a text", api.Scalar{Kind: api.Number, S: "1"}, api.ErrArg},
		{"text with a number", api.Scalar{Kind: api.Text, N: 1}, api.ErrArg},
		{"kind above", api.Scalar{Kind: 3}, api.ErrArg},
		{"kind below", api.Scalar{Kind: -1}, api.ErrArg},
	}
	for _, c := range cases {
		if got := num.Validate(c.x); got != c.want {
			t.Errorf("%s: %d, not %d", c.name, got, c.want)
		}
		if c.want != api.OK {
			expectRefused(t, c.name, c.x, c.want)
		}
	}
}

// expectRefused checks that all functions with a scalar return an error and nothing else (R2, R3).
func expectRefused(t *testing.T, name string, x api.Scalar, want api.Errno) {
	t.Helper()
	if n, e := num.NumberOf(x); n != 0 || e != want {
		t.Errorf("%s: NumberOf %d, %d", name, n, e)
	}
	if s, e := num.TextOf(x); s != "" || e != want {
		t.Errorf("%s: TextOf %q, %d", name, s, e)
	}
	if is, e := num.Truth(x); is || e != want {
		t.Errorf("%s: Truth %t, %d", name, is, e)
	}
}

// P1.1
func TestNumberOfText(t *testing.T) {
	for s, want := range map[string]int{
		"":                        0,
		"  -12abc":                -12,
		"\t\n\r +5":               5,
		"007":                     7,
		"-0":                      0,
		"12 34":                   12,
		"1_000":                   1,
		"1e3":                     1,
		"0x10":                    0,
		"abc":                     0,
		"-":                       0,
		"- 5":                     0,
		"--5":                     0,
		"+-5":                     0,
		"\v5":                     0,
		"\f5":                     0,
		"\x005":                   0,
		"\u00a05":                 0,
		"\u0665":                  0,
		mostStr:                   most,
		"-" + mostStr:             -most,
		"9007199254740991":        most - 1,
		"9007199254740993":        most,
		"-9007199254740993":       -most,
		"9007199254740992a":       most,
		"90071992547409920":       most,
		"9223372036854775808":     most,
		"18446744073709551616":    most,
		"-18446744073709551615":   -most,
		long("9", api.MaxText):    most,
		long("0", 4000) + "3":     3,
		"-" + long("7", 400):      -most,
		long(" ", 4000) + "-3-4 ": -3,
	} {
		if got, e := num.NumberOf(text(s)); got != want || e != api.OK {
			t.Errorf("%.40q: %d, %d, not %d", s, got, e, want)
		}
	}
}

// P1.1
func TestFacesOfNumbersAndNothing(t *testing.T) {
	for n, want := range map[int]string{0: "0", 7: "7", -7: "-7", most: mostStr, -most: "-" + mostStr} {
		if got, e := num.NumberOf(number(n)); got != n || e != api.OK {
			t.Errorf("the number of %d: %d, %d", n, got, e)
		}
		if got, e := num.TextOf(number(n)); got != want || e != api.OK {
			t.Errorf("the text of %d: %q, %d", n, got, e)
		}
	}
	if n, e := num.NumberOf(api.Scalar{}); n != 0 || e != api.OK {
		t.Errorf("the number of nothing: %d, %d", n, e)
	}
	if s, e := num.TextOf(api.Scalar{}); s != "" || e != api.OK {
		t.Errorf("the text of nothing: %q, %d", s, e)
	}
	for _, s := range []string{"", " 7", "+7", "\xff\n", long("a", api.MaxText)} {
		if got, e := num.TextOf(text(s)); got != s || e != api.OK {
			t.Errorf("the text of %.40q: %.40q, %d", s, got, e)
		}
	}
}

// P1.1
func TestTruth(t *testing.T) {
	cases := []struct {
		x    api.Scalar
		want bool
	}{
		{api.Scalar{}, false},
		{api.Scalar{Taint: true}, false},
		{number(0), false},
		{number(1), true},
		{number(-1), true},
		{text(""), false},
		{text("0"), false},
		{text("00"), true},
		{text("0.0"), true},
		{text(" 0"), true},
		{text("0\n"), true},
		{text("-0"), true},
		{text("+0"), true},
		{text(" "), true},
		{text("\x00"), true},
		{text("a"), true},
	}
	for _, c := range cases {
		if got, e := num.Truth(c.x); got != c.want || e != api.OK {
			t.Errorf("%+v: %t, %d", c.x, got, e)
		}
	}
}

// P1.1
func TestLooks(t *testing.T) {
	yes := []string{"0", "12", " 12 ", "\t\n\r +007\r\n\t ", "-1", "+1", "-0", mostStr + "0", long("9", 5000)}
	no := []string{"", " ", "-", "+", "- 1", "--1", "1-", "12a", "a12", "1 2", "1.0", "1_0", "0x1", "1\v", "\f1", "1\x00", "\u0661", "1\u00a0"}
	for _, s := range yes {
		if !num.Looks(s) {
			t.Errorf("%.40q looks like a number", s)
		}
	}
	for _, s := range no {
		if num.Looks(s) {
			t.Errorf("%q does not look like a number", s)
		}
	}
}

// P1: every function ends and does not panic, and with an error gives nothing else (R3).
func TestNothingPanics(t *testing.T) {
	ints := []int{math.MinInt, math.MinInt + 1, -most - 1, -most, -17, -1, 0, 1, 2, 3, 8, 10, 16, 53, 64, most - 1, most, most + 1, 1 << 62, math.MaxInt}
	texts := []string{"", "0", "a", "z9", "-", "0x", "0b_", "\x00", "\xff", " ", "\u00e9", mostStr, long("z", api.MaxText), long("9", api.MaxText+1), long("_", 5000), "0x" + long("f", 1<<16)}
	for _, a := range ints {
		for _, b := range ints {
			for op := -1; op <= 9; op++ {
				if n, why, e := num.Do(op, a, b); (why != 0 || e != api.OK) && n != 0 || e != api.OK && why != 0 {
					t.Errorf("Do(%d, %d, %d): %d, %d, %d", op, a, b, n, why, e)
				}
			}
			num.Do(a, b, 1)
			num.Compare(a, b)
			if s, e := num.Spell(a, b); e != api.OK && s != "" {
				t.Errorf("Spell(%d, %d): %q, %d", a, b, s, e)
			}
			if n, e := num.Round(a, b); e != api.OK && n != 0 {
				t.Errorf("Round(%d, %d): %d, %d", a, b, n, e)
			}
		}
		for _, s := range texts {
			x := api.Scalar{Kind: a, N: a, S: s}
			if e := num.Validate(x); e != api.OK {
				expectRefused(t, "any scalar", x, e)
			}
			if r, e := num.Repeat(s, a); e != api.OK && r != "" {
				t.Errorf("Repeat(%.20q, %d): %d", s, a, e)
			}
		}
	}
	for _, s := range texts {
		for _, u := range texts {
			num.CompareText(s, u)
			if l, e := num.Range(s, u); e != api.OK && len(l) != 0 {
				t.Errorf("Range(%.20q, %.20q): %d", s, u, e)
			}
		}
		num.Looks(s)
		if n, ok := num.Radix(s); !ok && n != 0 {
			t.Errorf("Radix(%.20q): %d", s, n)
		}
		if u, e := num.Next(s); e != api.OK && u != "" {
			t.Errorf("Next(%.20q): %d", s, e)
		}
	}
}
