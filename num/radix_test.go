package num_test

import (
	"math"
	"testing"

	"motley/api"
	"motley/num"
)

// P1.4
func TestRadix(t *testing.T) {
	for s, want := range map[string]int{
		"0":                      0,
		"7":                      7,
		"10":                     10,
		"1_000":                  1000,
		"1_2_3":                  123,
		"0x1f":                   31,
		"0xAbCdEf":               0xabcdef,
		"0x0":                    0,
		"0x0_0f":                 15,
		"0x00000000000000000001": 1,
		"0xb":                    11,
		"0xF":                    15,
		"0b101":                  5,
		"0b0":                    0,
		"0b1_1":                  3,
		"017":                    15,
		"00":                     0,
		"0017":                   15,
		"0_17":                   15,
		"01_7":                   15,
		mostStr:                  most,
		"9_007_199_254_740_992":  most,
		"0x20000000000000":       most,
		"0400000000000000000":    most,
		"0b1" + long("0", 53):    most,
		"0b" + long("0", 9000):   0,
	} {
		if got, ok := num.Radix(s); got != want || !ok {
			t.Errorf("Radix of %.40q: %d, %t, not %d", s, got, ok, want)
		}
	}
	for _, s := range []string{
		"", "_", "_1", "1_", "1__0", "1a", "a", "+1", "-1", " 1", "1 ", "1\n", "1.0",
		"08", "018", "0_8", "0_", "0__1", "_0", "09_",
		"0x", "0xg", "0x_1", "0x1_", "0x1__1", "0X1", "0_x1", "0x-1", "0x 1", "0x0x1", "00x1",
		"0b", "0b2", "0b_1", "0b1_", "0b1__1", "0B1", "0b12", "0b1a", "0o7", "x1f",
		"9007199254740993", "0x20000000000001", "0400000000000000001", "0b1" + long("0", 52) + "10",
		"18446744073709551617", "0x10000000000000001", long("9", 5000), "0x" + long("f", 5000),
		"\u0661", "1\x00", "\xff",
	} {
		if got, ok := num.Radix(s); got != 0 || ok {
			t.Errorf("Radix of %.40q: %d, %t", s, got, ok)
		}
	}
}

// P1.4
func TestSpell(t *testing.T) {
	cases := []struct {
		n, base int
		want    string
	}{
		{0, 2, "0b0"},
		{0, 8, "0"},
		{0, 10, "0"},
		{0, 16, "0x0"},
		{5, 2, "0b101"},
		{8, 8, "010"},
		{1, 8, "01"},
		{42, 10, "42"},
		{0xabcdef, 16, "0xabcdef"},
		{-5, 2, "-0b101"},
		{-8, 8, "-010"},
		{-42, 10, "-42"},
		{-31, 16, "-0x1f"},
		{most, 2, "0b1" + long("0", 53)},
		{most, 8, "0400000000000000000"},
		{most, 10, mostStr},
		{most, 16, "0x20000000000000"},
		{-most, 16, "-0x20000000000000"},
	}
	for _, c := range cases {
		if got, e := num.Spell(c.n, c.base); got != c.want || e != api.OK {
			t.Errorf("Spell(%d, %d): %q, %d", c.n, c.base, got, e)
		}
	}
	for _, c := range [][2]int{{1, 0}, {1, 1}, {1, 3}, {1, 7}, {1, 9}, {1, 12}, {1, 32}, {1, 36}, {1, -2}, {1, math.MinInt}, {most + 1, 10}, {-most - 1, 16}, {math.MinInt, 2}, {math.MaxInt, 8}} {
		if got, e := num.Spell(c[0], c[1]); got != "" || e != api.ErrArg {
			t.Errorf("Spell%v: %q, %d", c, got, e)
		}
	}
}

// P1.4: Radix of Spell of n from 0 on is n.
func TestRadixOfSpell(t *testing.T) {
	for _, base := range []int{2, 8, 10, 16} {
		for _, from := range []int{0, 1 << 20, most - 300} {
			for n := from; n <= from+300; n++ {
				s, _ := num.Spell(n, base)
				if got, ok := num.Radix(s); got != n || !ok {
					t.Errorf("Radix of %q, the Spell of %d: %d, %t", s, n, got, ok)
				}
			}
		}
	}
}

// P1.4
func TestRound(t *testing.T) {
	for _, c := range [][3]int{
		{0, 1, 0}, {0, 10, 0}, {0, most, 0},
		{7, 1, 7}, {-7, 1, -7},
		{14, 10, 10}, {15, 10, 20}, {16, 10, 20}, {20, 10, 20},
		{-14, 10, -10}, {-15, 10, -20}, {-16, 10, -20}, {-20, 10, -20},
		{4, 10, 0}, {5, 10, 10}, {-4, 10, 0}, {-5, 10, -10},
		{1, 3, 0}, {2, 3, 3}, {4, 3, 3}, {5, 3, 6}, {-1, 3, 0}, {-2, 3, -3},
		{3, 7, 0}, {4, 7, 7}, {-4, 7, -7},
		{most, 1, most}, {-most, 1, -most}, {most, most, most}, {-most, most, -most},
		{most - 1, 2, most}, {1 - most, 2, -most},
		{most / 2, most, most}, {most/2 - 1, most, 0}, {-most / 2, most, -most}, {1 - most/2, most, 0},
		{most, 5, most - 2}, {1, most, 0},
		{most, most - 1, most - 1},
	} {
		if got, e := num.Round(c[0], c[1]); got != c[2] || e != api.OK {
			t.Errorf("Round(%d, %d): %d, %d, not %d", c[0], c[1], got, e, c[2])
		}
	}
	for _, c := range [][2]int{{most, 3}, {-most, 3}, {most, 7}, {most - 2, 12}, {2 - most, 12}, {most, 2*(most/3) - 1}, {most, most/3*2 + 1}} {
		if got, e := num.Round(c[0], c[1]); got != 0 || e != api.ErrLarge {
			t.Errorf("Round%v: %d, %d", c, got, e)
		}
	}
	for _, c := range [][2]int{{1, 0}, {1, -1}, {1, -10}, {1, most + 1}, {1, math.MaxInt}, {1, math.MinInt}, {most + 1, 1}, {-most - 1, 1}, {math.MinInt, 3}, {math.MaxInt, 3}} {
		if got, e := num.Round(c[0], c[1]); got != 0 || e != api.ErrArg {
			t.Errorf("Round%v: %d, %d", c, got, e)
		}
	}
}

// P1.4: Round gives a multiple, and no other one is nearer, nor as near and farther from 0.
func TestRoundIsNearest(t *testing.T) {
	for n := -60; n <= 60; n++ {
		for to := 1; to <= 25; to++ {
			want := 0
			for k := -100; k <= 100; k++ {
				far, best := max(k*to-n, n-k*to), max(want-n, n-want)
				if far < best || far == best && max(k*to, -k*to) > max(want, -want) {
					want = k * to
				}
			}
			if got, e := num.Round(n, to); got != want || e != api.OK {
				t.Errorf("Round(%d, %d): %d, %d, not %d", n, to, got, e, want)
			}
		}
	}
}
