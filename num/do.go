package num

import (
	"cmp"
	"strings"

	"motley/api"
)

// beyond stands for every result that is out of range, so that no computation overflows.
const beyond = api.MaxNum + 1

// A check says why two numbers have no result (0: it sees no reason).
type check func(a, b int) int

// An operation returns its result and 0, or 0 and why there is none.
type operation func(a, b int) (int, int)

// Do returns the result of an operation and 0, or 0 and why there is none.
func Do(op, a, b int) (int, int, api.Errno) {
	do, ok := operations()[op]
	if !ok || !isNumber(a) || !isNumber(b) {
		return 0, 0, api.ErrArg
	}
	n, why := do(a, b)
	return n, why, api.OK
}

// Compare returns -1, 0 or 1.
func Compare(a, b int) int {
	return cmp.Compare(a, b)
}

// CompareText returns -1, 0 or 1, by the bytes of the texts.
func CompareText(s, t string) int {
	return strings.Compare(s, t)
}

func operations() map[int]operation {
	divisor := refuse(api.DieZero, func(_, b int) bool { return b == 0 })
	exponent := refuse(api.DieRange, func(_, b int) bool { return b < 0 })
	bits := refuse(api.DieRange, func(a, b int) bool { return a < 0 || b < 0 })
	return map[int]operation{
		api.Add: checked(func(a, b int) int { return a + b }),
		api.Sub: checked(func(a, b int) int { return a - b }),
		api.Mul: checked(product),
		api.Div: checked(quotient, divisor),
		api.Mod: checked(remainder, divisor),
		api.Pow: checked(power, exponent),
		api.And: checked(func(a, b int) int { return a & b }, bits),
		api.Or:  checked(func(a, b int) int { return a | b }, bits),
		api.Xor: checked(func(a, b int) int { return a ^ b }, bits),
	}
}

// refuse makes a check that says why where the numbers are bad.
func refuse(why int, bad func(a, b int) bool) check {
	return func(a, b int) int {
		if bad(a, b) {
			return why
		}
		return 0
	}
}

// checked makes an operation that computes only what all its checks let pass, and gives only numbers in range.
func checked(compute func(a, b int) int, checks ...check) operation {
	return func(a, b int) (int, int) {
		for _, c := range checks {
			if why := c(a, b); why != 0 {
				return 0, why
			}
		}
		n := compute(a, b)
		if !isNumber(n) {
			return 0, api.DieRange
		}
		return n, 0
	}
}

func product(a, b int) int {
	if a != 0 && size(b) > api.MaxNum/size(a) {
		return beyond
	}
	return a * b
}

// quotient is a divided by b, rounded down, where Go rounds toward 0.
func quotient(a, b int) int {
	n := a / b
	if a%b != 0 && (a < 0) != (b < 0) {
		n--
	}
	return n
}

func remainder(a, b int) int {
	return a - b*quotient(a, b)
}

func power(a, b int) int {
	if size(a) <= 1 && b > 2 {
		// Such a power never leaves the range: only whether b is odd matters, and b may be far too great to count to.
		b = 2 - b%2
	}
	n := 1
	for range b {
		n = product(n, a)
		if n == beyond {
			return beyond
		}
	}
	return n
}
