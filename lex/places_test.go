package lex_test

import (
	"math"
	"testing"

	"motley/api"
	"motley/lex"
)

// P3.3: IsWord.
func TestIsWord(t *testing.T) {
	for _, s := range []string{"a", "Z", "_", "__", "a1", "_1", "a_b", "a::b", "a::_", "_::a", "a::b::c1", "abcdefghijkl", "a::b::c::d_e"[:12], "if", "q", "x1234567890_"} {
		if !lex.IsWord(s) {
			t.Errorf("IsWord of %q", s)
		}
	}
	for _, s := range []string{"", "1", "1a", "a b", " a", "a ", "a:", "a::", ":a", "::a", "a:b", "a::1", "a:::b", "a::b::", "a::::b", "$a", "a-b", "a'b", "a\n", "é", "a\xff", "abcdefghijklm", "abcdefghij::k", long("a", 5000), "a::defghijklm", "\x00", "a."} {
		if lex.IsWord(s) {
			t.Errorf("IsWord of %q", s)
		}
	}
}

// P3.3: Where.
func TestWhere(t *testing.T) {
	for _, s := range []string{"", "\n", "a", "a\n", "\n\n", "ab\ncd\n\n;", "'a\nb'\n", "<<E .\na\nE\n1", "# a\n#\n"} {
		line, column := 1, 1
		for place := range len(s) + 1 {
			if l, c, e := lex.Where(s, place); l != line || c != column || e != api.OK {
				t.Errorf("Where of %q at %d: %d %d %d, not %d %d", s, place, l, c, e, line, column)
			}
			column++
			if place < len(s) && s[place] == '\n' {
				line, column = line+1, 1
			}
		}
		for _, place := range []int{-1, math.MinInt, len(s) + 1, len(s) + 2, math.MaxInt} {
			if l, c, e := lex.Where(s, place); l != 0 || c != 0 || e != api.ErrArg {
				t.Errorf("Where of %q at %d: %d %d %d", s, place, l, c, e)
			}
		}
	}
	s := long(" ", api.MaxSource-1) + "\n"
	if l, c, e := lex.Where(s, api.MaxSource); l != 2 || c != 1 || e != api.OK {
		t.Errorf("Where at the end: %d %d %d", l, c, e)
	}
	if l, c, e := lex.Where(s, api.MaxSource-1); l != 1 || c != api.MaxSource || e != api.OK {
		t.Errorf("Where before the end: %d %d %d", l, c, e)
	}
}

// P3.3: Kept.
func TestKept(t *testing.T) {
	for _, c := range []struct {
		s        string
		from, to int
		by       string
		want     int
	}{
		{"", 0, 0, "", 0}, {"", 0, 0, "a", 0}, {"a b c", 0, 0, "", 3}, {"a b c", 5, 5, "", 3}, {"a b c", 2, 2, "", 3}, {"a b c", 0, 5, "a b c", 3}, {"a b c", 0, 5, "", 0}, {"a b c", 0, 5, "a", 1}, {"a b c", 0, 1, "b", 0}, {"a b c", 2, 3, "d", 1}, {"a b c", 4, 5, "d", 2}, {"a b c", 5, 5, " d", 3}, {"a b c", 5, 5, "d", 2}, {"a b c", 0, 0, " ", 3}, {"a b c", 0, 0, "\n# x\n", 3}, {"a b c", 0, 0, "d ", 0}, {"a a a", 0, 0, "a ", 3}, {"a a a", 0, 2, "", 2}, {"a b c", 1, 2, "", 0}, {"a b c", 3, 4, "", 1}, {"a b c", 1, 5, "", 1}, {"a b c", 2, 4, "", 1}, {"a b a b", 0, 4, "", 2},
		// A token changes with the ones before it, and with what comes behind it.
		{"1 / 2 /", 0, 1, "f(", 0}, {"1 - a", 2, 3, "+", 1}, {"$x / 2 /", 0, 2, "", 0}, {"$x{a}", 2, 2, " ", 1}, {"$x{a} ", 6, 6, "{b}", 4}, {"%{", 1, 1, " ", 2}, {"& {a}{b}", 1, 2, "# c\n", 7}, {"1 + %{a}", 0, 3, "", 0}, {"(%{a}", 1, 1, "1", 1}, {"+ %{", 1, 1, " 1 ", 1}, {"1 %{", 3, 3, " ", 3}, {"({a => 1})", 0, 1, ";", 0}, {"; {a}", 0, 1, "(", 0}, {"'a'", 1, 2, "b", 0}, {"/a/ ", 3, 3, "i", 0}, {"s/a/b/", 4, 5, "c", 0}, {"q(a)", 1, 4, "[a]", 1}, {"q(a)", 0, 4, "'a'", 1}, {"1 + 2", 2, 3, "- ", 1}, {"1 < 2", 3, 3, "=", 1}, {"a : b", 3, 4, ":", 2}, {"a: :b", 2, 3, "", 0},
		{"<<E . 1\na\nE\n", 8, 9, "b", 0}, {"1 . <<E\na\nE\n", 8, 9, "b", 2}, {"1 . <<E\na\nE\n", 7, 7, ". 2", 3}, {"1 . <<E\na\nE\n", 12, 12, ";", 3},
	} {
		if n, e := lex.Kept(c.s, c.from, c.to, c.by); n != c.want || e != api.OK {
			t.Errorf("Kept of %q from %d to %d by %q: %d %d, not %d", c.s, c.from, c.to, c.by, n, e, c.want)
		}
	}
	s := long("a", 12) + long(" ", api.MaxSource-12)
	if n, e := lex.Kept(s, api.MaxSource, api.MaxSource, ""); n != 1 || e != api.OK {
		t.Errorf("Kept at the end: %d %d", n, e)
	}
	if n, e := lex.Kept(s, 12, 12+10, long(" ", 10)); n != 1 || e != api.OK {
		t.Errorf("Kept of as much: %d %d", n, e)
	}
}

// P3.3: the errors of Kept, and their order (those of the source stand with TestErrorsOfSources).
func TestKeptIsRefused(t *testing.T) {
	full := long(" ", api.MaxSource)
	many := long(";", api.MaxTokens)
	for _, c := range []struct {
		s        string
		from, to int
		by       string
		want     api.Errno
	}{
		{"a b", -1, 0, "", api.ErrArg}, {"a b", 2, 1, "", api.ErrArg}, {"a b", 0, 4, "", api.ErrArg}, {"a b", 4, 4, "", api.ErrArg}, {"a b", 3, 4, "", api.ErrArg}, {"a b", -2, -1, "", api.ErrArg}, {"a b", 0, -1, "", api.ErrArg}, {"", 0, 1, "", api.ErrArg}, {"", 1, 1, "", api.ErrArg}, {"a b", math.MinInt, math.MaxInt, "", api.ErrArg}, {"a b", math.MaxInt, math.MinInt, "", api.ErrArg}, {"a b", 0, math.MaxInt, "", api.ErrArg}, {"a b", math.MaxInt, math.MaxInt, "", api.ErrArg},
		{"a b", -1, 0, "'", api.ErrArg}, {"a b", 2, 1, full + " ", api.ErrArg}, {"a b", 0, 4, "\xff", api.ErrArg},
		{"a b", 0, 0, "'", api.ErrSyntax}, {"a b", 3, 3, "\xff", api.ErrSyntax}, {"'a'", 0, 1, "", api.ErrSyntax}, {"$x", 1, 2, "", api.ErrSyntax}, {"<<E\nE", 4, 5, "", api.ErrSyntax},
		{full, 0, 0, " ", api.ErrLarge}, {full, 0, 0, "\xff", api.ErrLarge}, {full, 0, 1, "\xff", api.ErrSyntax}, {full, 7, 8, "  ", api.ErrLarge}, {many, 0, 0, ";", api.ErrLarge}, {many, 0, 0, ";$", api.ErrSyntax}, {"", 0, 0, full + " ", api.ErrLarge},
	} {
		if n, e := lex.Kept(c.s, c.from, c.to, c.by); n != 0 || e != c.want {
			t.Errorf("Kept of %.10q from %d to %d by %.10q: %d %d, not %d", c.s, c.from, c.to, c.by, n, e, c.want)
		}
	}
}
