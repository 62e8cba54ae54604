package num_test

import (
	"math"
	"math/big"
	"testing"

	"motley/api"
	"motley/num"
)

// P1.2
func TestDoResults(t *testing.T) {
	cases := []struct{ op, a, b, want int }{
		{api.Add, 2, 3, 5},
		{api.Add, most - 1, 1, most},
		{api.Add, -most, most, 0},
		{api.Sub, 2, 3, -1},
		{api.Sub, -most + 1, 1, -most},
		{api.Mul, -4, 3, -12},
		{api.Mul, most, -1, -most},
		{api.Mul, 0, most, 0},
		{api.Mul, most, 0, 0},
		{api.Mul, 1 << 26, 1 << 27, most},
		{api.Div, 7, 2, 3},
		{api.Div, -7, 2, -4},
		{api.Div, 7, -2, -4},
		{api.Div, -7, -2, 3},
		{api.Div, -8, 2, -4},
		{api.Div, 0, -5, 0},
		{api.Div, -1, most, -1},
		{api.Div, -most, -1, most},
		{api.Mod, 7, 3, 1},
		{api.Mod, -7, 3, 2},
		{api.Mod, 7, -3, -2},
		{api.Mod, -7, -3, -1},
		{api.Mod, -6, 3, 0},
		{api.Mod, 6, -3, 0},
		{api.Mod, 1, -most, 1 - most},
		{api.Mod, most, -1, 0},
		{api.Pow, 2, 10, 1024},
		{api.Pow, -2, 3, -8},
		{api.Pow, 0, 0, 1},
		{api.Pow, -5, 0, 1},
		{api.Pow, most, 0, 1},
		{api.Pow, 0, 7, 0},
		{api.Pow, 0, most, 0},
		{api.Pow, 1, most, 1},
		{api.Pow, -1, 1, -1},
		{api.Pow, -1, 2, 1},
		{api.Pow, -1, 3, -1},
		{api.Pow, -1, most, 1},
		{api.Pow, -1, most - 1, -1},
		{api.Pow, most, 1, most},
		{api.Pow, 2, 53, most},
		{api.Pow, -2, 53, -most},
		{api.Pow, 3, 33, 5559060566555523},
		{api.And, 6, 3, 2},
		{api.Or, 6, 3, 7},
		{api.Xor, 6, 3, 5},
		{api.And, most, most, most},
		{api.Or, most, 0, most},
		{api.Or, most - 1, 1, most - 1},
		{api.Xor, most, most, 0},
	}
	for _, c := range cases {
		if n, why, e := num.Do(c.op, c.a, c.b); n != c.want || why != 0 || e != api.OK {
			t.Errorf("Do(%d, %d, %d): %d, %d, %d, not %d", c.op, c.a, c.b, n, why, e, c.want)
		}
	}
}

// P1.2
func TestDoDies(t *testing.T) {
	cases := []struct{ op, a, b, why int }{
		{api.Div, 1, 0, api.DieZero},
		{api.Div, 0, 0, api.DieZero},
		{api.Mod, -1, 0, api.DieZero},
		{api.Add, most, 1, api.DieRange},
		{api.Add, -most, -1, api.DieRange},
		{api.Sub, -most, 1, api.DieRange},
		{api.Sub, most, -1, api.DieRange},
		{api.Mul, most, 2, api.DieRange},
		{api.Mul, most, -2, api.DieRange},
		{api.Mul, 1 << 32, 1 << 32, api.DieRange},
		{api.Mul, most, most, api.DieRange},
		{api.Mul, 1<<26 + 1, 1 << 27, api.DieRange},
		{api.Pow, 2, 54, api.DieRange},
		{api.Pow, -2, 54, api.DieRange},
		{api.Pow, 2, 64, api.DieRange},
		{api.Pow, 2, most, api.DieRange},
		{api.Pow, most, most, api.DieRange},
		{api.Pow, 3, 34, api.DieRange},
		{api.Pow, 2, -1, api.DieRange},
		{api.Pow, 1, -1, api.DieRange},
		{api.Pow, -1, -2, api.DieRange},
		{api.Pow, 0, -1, api.DieRange},
		{api.And, -1, 3, api.DieRange},
		{api.And, 3, -1, api.DieRange},
		{api.Or, -1, 3, api.DieRange},
		{api.Or, 3, -1, api.DieRange},
		{api.Or, most, 1, api.DieRange},
		{api.Xor, -1, -1, api.DieRange},
		{api.Xor, 3, -1, api.DieRange},
		{api.Xor, most, most - 1, api.DieRange},
	}
	for _, c := range cases {
		if n, why, e := num.Do(c.op, c.a, c.b); n != 0 || why != c.why || e != api.OK {
			t.Errorf("Do(%d, %d, %d): %d, %d, %d, not why %d", c.op, c.a, c.b, n, why, e, c.why)
		}
	}
}

// P1.2
func TestDoRefuses(t *testing.T) {
	for _, c := range [][3]int{
		{-1, 1, 1},
		{9, 1, 1},
		{math.MaxInt, 1, 1},
		{api.Add, most + 1, -1},
		{api.Add, -1, most + 1},
		{api.Sub, -most - 1, -1},
		{api.Sub, 0, -most - 1},
		{api.Div, most + 1, 0},
		{api.Mod, math.MinInt, -1},
		{api.Pow, 1, math.MaxInt},
		{api.And, math.MinInt, 1},
	} {
		if n, why, e := num.Do(c[0], c[1], c[2]); n != 0 || why != 0 || e != api.ErrArg {
			t.Errorf("Do%v: %d, %d, %d", c, n, why, e)
		}
	}
}

// P1.2: results are exact, whatever the numbers (R8).
func TestDoIsExact(t *testing.T) {
	numbers := []int{0, 1, 2, 3, 5, 10, 31, 1 << 26, 1<<26 + 1, 1 << 27, 1<<31 - 1, 1 << 32, 94906265, 94906266, most/3 + 1, most / 2, most - 1, most}
	for _, n := range numbers {
		numbers = append(numbers, -n)
	}
	for _, a := range numbers {
		for _, b := range numbers {
			for op := api.Add; op <= api.Xor; op++ {
				want, why := exactly(op, a, b)
				if n, y, e := num.Do(op, a, b); n != want || y != why || e != api.OK {
					t.Errorf("Do(%d, %d, %d): %d, %d, %d, not %d, %d", op, a, b, n, y, e, want, why)
				}
			}
		}
	}
}

// exactly is what Do returns, by numbers without a limit.
func exactly(op, a, b int) (int, int) {
	x, y := big.NewInt(int64(a)), big.NewInt(int64(b))
	z := new(big.Int)
	switch op {
	case api.Add:
		z.Add(x, y)
	case api.Sub:
		z.Sub(x, y)
	case api.Mul:
		z.Mul(x, y)
	case api.Div, api.Mod:
		if b == 0 {
			return 0, api.DieZero
		}
		z, m := floored(x, y)
		if op == api.Mod {
			z = m
		}
		return inRange(z)
	case api.Pow:
		if b < 0 {
			return 0, api.DieRange
		}
		if a < -1 || a > 1 {
			b = min(b, 99) // beyond the range all the same
		} else {
			b = b%2 + 2*min(1, b/2)
		}
		z.Exp(x, big.NewInt(int64(b)), nil)
	default:
		if a < 0 || b < 0 {
			return 0, api.DieRange
		}
		z = bitwise(op, x, y)
	}
	return inRange(z)
}

func floored(x, y *big.Int) (*big.Int, *big.Int) {
	z, m := new(big.Int).QuoRem(x, y, new(big.Int))
	if m.Sign() != 0 && m.Sign() != y.Sign() {
		z.Sub(z, big.NewInt(1))
		m.Add(m, y)
	}
	return z, m
}

func bitwise(op int, x, y *big.Int) *big.Int {
	switch op {
	case api.And:
		return new(big.Int).And(x, y)
	case api.Or:
		return new(big.Int).Or(x, y)
	}
	return new(big.Int).Xor(x, y)
}

func inRange(z *big.Int) (int, int) {
	if new(big.Int).Abs(z).Cmp(big.NewInt(most)) > 0 {
		return 0, api.DieRange
	}
	return int(z.Int64()), 0
}

// P1.2
func TestCompare(t *testing.T) {
	for _, c := range [][3]int{{1, 2, -1}, {2, 1, 1}, {2, 2, 0}, {-1, 1, -1}, {math.MinInt, math.MaxInt, -1}, {math.MaxInt, math.MinInt, 1}, {math.MinInt, math.MinInt, 0}} {
		if got := num.Compare(c[0], c[1]); got != c[2] {
			t.Errorf("Compare(%d, %d): %d", c[0], c[1], got)
		}
	}
}

// P1.2
func TestCompareText(t *testing.T) {
	cases := []struct {
		s, t string
		want int
	}{
		{"", "", 0},
		{"", "a", -1},
		{"a", "", 1},
		{"a", "b", -1},
		{"b", "a", 1},
		{"a", "ab", -1},
		{"10", "9", -1},
		{"B", "a", -1},
		{"\xff", "\u00e9", 1},
		{"z", "\u00e9", -1},
		{"a\x00", "a", 1},
		{long("a", 5000), long("a", 5000), 0},
	}
	for _, c := range cases {
		if got := num.CompareText(c.s, c.t); got != c.want {
			t.Errorf("CompareText(%.20q, %.20q): %d", c.s, c.t, got)
		}
	}
}
