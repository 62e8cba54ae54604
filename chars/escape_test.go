package chars_test

import (
	"fmt"
	"testing"

	"motley/api"
	"motley/chars"
)

// P2.4
func TestEscape(t *testing.T) {
	for s, want := range map[string]string{
		"":                     "",
		"abc ~!":               "abc ~!",
		`\`:                    `\\`,
		`\x{41}`:               `\\x{41}`,
		"\n":                   `\x{a}`,
		"\x00":                 `\x{0}`,
		"\x1f\x20\x7e\x7f":     `\x{1f} ~\x{7f}`,
		"\u0080\u00ff":         `\x{80}\x{ff}`,
		"a\u20acb":             `a\x{20ac}b`,
		"\uFFFD":               `\x{fffd}`,
		"\U0010FFFF":           `\x{10ffff}`,
		"\uABCD\u00ef":         `\x{abcd}\x{ef}`,
		long("a", api.MaxText): long("a", api.MaxText),
		long(`\`, 2048):        long(`\`, 4096),
		filled(`\`, 4095):      `\` + filled(`\`, 4095),
	} {
		expect(t, "Escape", chars.Escape, s, want)
		expect(t, "Unescape", chars.Unescape, want, s)
	}
	for _, s := range []string{long("\u00e9", api.MaxText/2), filled(`\`, api.MaxText), long(`\`, 2049), filled("\n", api.MaxText-3)} {
		if got, e := chars.Escape(s); got != "" || e != api.ErrLarge {
			t.Errorf("Escape of %.10q: %.10q, %d", s, got, e)
		}
	}
	expect(t, "Escape", chars.Escape, filled("\n", api.MaxText-4), `\x{a}`+long("a", api.MaxText-5))
}

// P2.4: each character, and that Unescape of Escape is the text.
func TestEscapeOfCharacters(t *testing.T) {
	for _, c := range looked() {
		s := "a" + string(rune(c)) + "1"
		want := s
		if c < 0x20 || c > 0x7E {
			want = fmt.Sprintf(`a\x{%x}1`, c)
		} else if c == '\\' {
			want = `a\\1`
		}
		expect(t, "Escape", chars.Escape, s, want)
		expect(t, "Unescape of Escape", chars.Unescape, want, s)
		expect(t, "Unescape", chars.Unescape, fmt.Sprintf(`a\x{%X}1`, c), s)
		expect(t, "Unescape", chars.Unescape, fmt.Sprintf(`a\x{%06X}1`, c), s)
	}
}

// P2.4
func TestUnescape(t *testing.T) {
	for s, want := range map[string]string{
		`\x{41}`:                     "A",
		`\x{5c}`:                     `\`,
		`\x{5C}n`:                    `\n`,
		`\x{0}`:                      "\x00",
		`\x{00}\x{000000}`:           "\x00\x00",
		`\x{00041}`:                  "A",
		`\x{000041}`:                 "A",
		`\x{aB}\x{Ab}\x{AB}\x{ab}`:   "\u00ab\u00ab\u00ab\u00ab",
		`\x{d7ff}\x{e000}`:           "\ud7ff\ue000",
		`\x{10FFFF}`:                 "\U0010FFFF",
		`\\x{41}`:                    `\x{41}`,
		`\\\x{41}`:                   `\A`,
		`\\\\`:                       `\\`,
		`x{41}`:                      `x{41}`,
		`{}`:                         `{}`,
		`\x{41}}`:                    `A}`,
		"\u00e9\n\u20ac":             "\u00e9\n\u20ac",
		"\u00e9\\x{e9}":              "\u00e9\u00e9",
		filled(`\x{41}`, 4096):       filled("A", 4091),
		long(`\x{0}`, 819) + "a":     long("\x00", 819) + "a",
		long(`\\`, api.MaxText/2):    long(`\`, api.MaxText/2),
		long("\u20ac", 1365) + "a":   long("\u20ac", 1365) + "a",
		`\x{1}\x{12}\x{123}\x{1234}`: "\x01\x12\u0123\u1234",
		`\x{12345}\x{012345}`:        "\U00012345\U00012345",
	} {
		expect(t, "Unescape", chars.Unescape, s, want)
	}
}

// P2.4
func TestUnescapeIsRefused(t *testing.T) {
	for _, s := range []string{
		`\`, `\\\`, `a\`, `\n`, `\ `, `\x`, `\x4`, `\x41`, `\x{`, `\x{}`, `\x{41`, `\x {41}`, `\x{ 41}`, `\x{41 }`, `\X{41}`,
		`\x{0000041}`, `\x{0000000}`, `\x{1234567}`, `\x{110000}`, `\x{ffffff}`, `\x{FFFFFF}`,
		`\x{d800}`, `\x{DFFF}`, `\x{dabc}`, `\x{00d800}`, `\x{g}`, `\x{4g}`, `\x{+4}`, `\x{-4}`, `\x{-0}`, `\x{0x4}`, `\x{4_1}`, `\x{_}`,
		`\x{41}\x{`, `\x{{41}}`, `\x(41)`, `\u0041`, `\{`, `\x\x{41}`, `\x{\\}`, "\\\u00e9", "\\x{\u0664}",
	} {
		for _, s := range []string{s, "ab" + s, s + "cd", `\\` + s} {
			if got, e := chars.Unescape(s); got != "" || e != api.ErrSyntax {
				t.Errorf("Unescape of %q: %q, %d", s, got, e)
			}
		}
	}
}
