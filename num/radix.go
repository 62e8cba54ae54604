package num

import (
	"strconv"
	"strings"

	"motley/api"
)

// Radix returns the number that a whole text writes in one of the bases, and true.
func Radix(s string) (int, bool) {
	if digits, ok := strings.CutPrefix(s, "0x"); ok {
		return valueOf(digits, 16)
	}
	if digits, ok := strings.CutPrefix(s, "0b"); ok {
		return valueOf(digits, 2)
	}
	if strings.HasPrefix(s, "0") {
		// The 0 in front is a digit as well: it may be alone, and a _ may stand behind it.
		return valueOf(s, 8)
	}
	return valueOf(s, 10)
}

// Spell returns a number in a base.
func Spell(n, base int) (string, api.Errno) {
	prefix, ok := prefixOf(base)
	if !ok || !isNumber(n) {
		return "", api.ErrArg
	}
	digits := strconv.FormatInt(int64(size(n)), base)
	if n == 0 && base == 8 {
		return digits, api.OK
	}
	if n < 0 {
		prefix = "-" + prefix
	}
	return prefix + digits, api.OK
}

// Round returns the multiple of to that is nearest to n.
func Round(n, to int) (int, api.Errno) {
	if to < 1 || to > api.MaxNum || !isNumber(n) {
		return 0, api.ErrArg
	}
	left := size(n) % to
	near := size(n) - left
	if 2*left >= to {
		near += to
	}
	if near > api.MaxNum {
		return 0, api.ErrLarge
	}
	if n < 0 {
		near = -near
	}
	return near, api.OK
}

// valueOf is the number that digits write in a base, with single _ between two of them.
func valueOf(digits string, base int) (int, bool) {
	n := 0
	behindDigit := false
	for i := range len(digits) {
		if digits[i] == '_' && behindDigit {
			behindDigit = false
			continue
		}
		d := digitOf(digits[i])
		if d >= base {
			return 0, false
		}
		n = n*base + d
		if n > api.MaxNum {
			return 0, false
		}
		behindDigit = true
	}
	if !behindDigit {
		return 0, false
	}
	return n, true
}

// digitOf is the value of a digit of any base; that of a byte that is none is a digit of no base.
func digitOf(c byte) int {
	switch {
	case isDigit(c):
		return int(c - '0')
	case c >= 'a' && c <= 'f':
		return int(c-'a') + 10
	case c >= 'A' && c <= 'F':
		return int(c-'A') + 10
	}
	return 16
}

// prefixOf is what stands in front of the digits in a base, and whether it is one.
func prefixOf(base int) (string, bool) {
	switch base {
	case 2:
		return "0b", true
	case 8:
		return "0", true
	case 10:
		return "", true
	case 16:
		return "0x", true
	}
	return "", false
}
