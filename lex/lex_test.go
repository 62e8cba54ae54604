package lex_test

import (
	"fmt"
	"math"
	"slices"
	"strings"
	"testing"

	"motley/api"
	"motley/lex"
)

// tell writes tokens as a line, without their places: w(a) n(1) v($x), quotes likewise, signs as they are, and behind a brace its Open.
func tell(l []api.Token) string {
	names := []string{"w", "n", "v", "", "str", "inter", "words", "pat", "subst", "trans"}
	var told []string
	for _, t := range l {
		s := t.Text
		if t.Open != 0 {
			s += fmt.Sprint(t.Open)
		}
		if t.Kind != api.KSign {
			parts := []string{t.Text}
			if t.Kind >= api.KPat {
				parts = append(parts, t.More)
			}
			if t.Kind >= api.KSubst {
				parts = []string{t.Text, t.Repl, t.More}
			}
			s = names[t.Kind] + "(" + strings.Join(parts, ";") + ")"
		}
		told = append(told, s)
	}
	return strings.Join(told, " ")
}

// told is tell of the tokens of a source, or its error and the place of it.
func told(s string) string {
	l, n, e := lex.Lex(s)
	if e != api.OK {
		return fmt.Sprintf("error %d at %d", e, n)
	}
	return tell(l)
}

// hold holds what is told of sources against what should be.
func hold(t *testing.T, cases [][2]string) {
	t.Helper()
	for _, c := range cases {
		if got := told(c[0]); got != c[1] {
			t.Errorf("Lex of %q: %s\nnot %s", c[0], got, c[1])
		}
	}
}

// wrongAt is what is told of a source whose byte at a place is wrong.
func wrongAt(place int) string { return fmt.Sprintf("error 2 at %d", place) }

// long is a text n times.
func long(s string, n int) string { return strings.Repeat(s, n) }

// P3.1: the examples of the chapter.
func TestExamples(t *testing.T) {
	hold(t, [][2]string{
		{"$x / 2", "v($x) / n(2)"},
		{"f(/2/)", "w(f) ( pat(2;) )"},
		{"$x{a}", "v($x) {2 w(a) }2"},
		{"if ($x) {", "w(if) ( v($x) ) {1"},
		{"f({a => 1})", "w(f) ( {3 w(a) => n(1) }3 )"},
		{"<<E . \"b\"\nt\nE\n", "inter(t\n) . inter(b)"},
	})
}

// P3.1: a token has its kind, its place, its texts and nothing else.
func TestTokens(t *testing.T) {
	s := " a1 \t12\n"
	want := []api.Token{
		{Kind: api.KWord, At: 1, Text: "a1"},
		{Kind: api.KNum, At: 5, Text: "12"},
	}
	if l, n, e := lex.Lex(s); !slices.Equal(l, want) || n != 2 || e != api.OK {
		t.Errorf("Lex of %q: %v %d %d", s, l, n, e)
	}
	want = []api.Token{
		{Kind: api.KVar, At: 0, Text: "$x"},
		{Kind: api.KSign, At: 2, Text: "{", Open: 2},
		{Kind: api.KWord, At: 3, Text: "k"},
		{Kind: api.KSign, At: 4, Text: "}", Open: 2},
		{Kind: api.KSign, At: 6, Text: "="},
		{Kind: api.KSubst, At: 8, Text: "p", Repl: "r", More: "ix"},
		{Kind: api.KSign, At: 18, Text: "+"},
		{Kind: api.KTrans, At: 19, Text: "a", Repl: "b", More: "cd"},
		{Kind: api.KSign, At: 28, Text: "."},
		{Kind: api.KPat, At: 30, Text: "c", More: "g"},
		{Kind: api.KSign, At: 35, Text: ";"},
		{Kind: api.KStr, At: 36, Text: "d"},
		{Kind: api.KSign, At: 40, Text: ","},
		{Kind: api.KInter, At: 41, Text: "e"},
		{Kind: api.KSign, At: 45, Text: "."},
		{Kind: api.KWords, At: 46, Text: "f g"},
	}
	s = "$x{k} = s(p) {r}ix+tr/a/b/cd. m!c!g;q'd',\"e\" .qw< f\tg>"
	if l, n, e := lex.Lex(s); !slices.Equal(l, want) || n != len(want) || e != api.OK {
		t.Errorf("Lex of %q: %v %d %d", s, l, n, e)
	}
	for _, s := range []string{"", " \t\n", "# a", "#", "\n#a\n"} {
		if l, n, e := lex.Lex(s); len(l) != 0 || n != 0 || e != api.OK {
			t.Errorf("Lex of %q: %v %d %d", s, l, n, e)
		}
		if l, e := lex.Terms(s); len(l) != 0 || e != api.OK {
			t.Errorf("Terms of %q: %v %d", s, l, e)
		}
	}
}

// refused has sources with an error, and the place of it.
var refused = []struct {
	s     string
	place int
	e     api.Errno
}{
	{long(" ", api.MaxSource+1), 0, api.ErrLarge},
	{"'" + long(" ", api.MaxSource), 0, api.ErrLarge},
	{long("\xff", api.MaxSource+1), 0, api.ErrLarge},
	{long(";", api.MaxTokens+1), 0, api.ErrLarge},
	{long(";", api.MaxTokens) + "\xff", api.MaxTokens, api.ErrSyntax},
	{long(";", api.MaxTokens) + ";'", api.MaxTokens + 1, api.ErrSyntax},
	{long(";", api.MaxTokens) + ";#\x7f", api.MaxTokens + 2, api.ErrSyntax},
	{"\x00", 0, api.ErrSyntax},
	{"a '", 2, api.ErrSyntax},
	{"a\xff", 1, api.ErrSyntax},
}

// P3.1, P3.3: the errors of a source come first, for all functions that have one.
func TestErrorsOfSources(t *testing.T) {
	for _, c := range refused {
		if l, n, e := lex.Lex(c.s); len(l) != 0 || n != c.place || e != c.e {
			t.Errorf("Lex of %.20q: %v %d %d", c.s, l, n, e)
		}
		if l, e := lex.Terms(c.s); len(l) != 0 || e != c.e {
			t.Errorf("Terms of %.20q: %v %d", c.s, l, e)
		}
		for _, place := range []int{-1, 0, len(c.s) + 1} {
			if line, column, e := lex.Where(c.s, place); line != 0 || column != 0 || e != c.e {
				t.Errorf("Where of %.20q: %d %d %d", c.s, line, column, e)
			}
		}
		for _, by := range []string{"", "'", long(" ", api.MaxSource+1)} {
			if n, e := lex.Kept(c.s, 0, len(c.s), by); n != 0 || e != c.e {
				t.Errorf("Kept of %.20q: %d %d", c.s, n, e)
			}
			if n, e := lex.Kept(c.s, 1, 0, by); n != 0 || e != c.e {
				t.Errorf("Kept of %.20q: %d %d", c.s, n, e)
			}
		}
	}
}

// P3.1: the limits are within.
func TestLimits(t *testing.T) {
	for _, s := range []string{long(" ", api.MaxSource), "'" + long("a", api.MaxSource-2) + "'", "#" + long("'", api.MaxSource-1)} {
		if got := told(s); strings.HasPrefix(got, "error") {
			t.Errorf("Lex of %.10q: %s", s, got)
		}
	}
	if _, n, e := lex.Lex(long("; \n ", api.MaxTokens)); n != api.MaxTokens || e != api.OK {
		t.Errorf("Lex of %d tokens: %d %d", api.MaxTokens, n, e)
	}
	if l, e := lex.Terms(long(";", api.MaxTokens)); len(l) != api.MaxTokens || e != api.OK {
		t.Errorf("Terms of %d tokens: %d %d", api.MaxTokens, len(l), e)
	}
}

// P3.1: which bytes a source has, wherever they stand.
func TestBytesOfSources(t *testing.T) {
	for c := range 256 {
		is := c == 9 || c == 10 || c >= 32 && c <= 126
		for _, frame := range []string{"'%s'", "#%s", "s(%s)(b)", "s(a)(%s)", "qw/a%s/", "<<E\n%s\nE"} {
			before, _, _ := strings.Cut(frame, "%s")
			s := strings.Replace(frame, "%s", string([]byte{byte(c)}), 1)
			_, n, e := lex.Lex(s)
			if !is && (n != len(before) || e != api.ErrSyntax) {
				t.Errorf("Lex of %q: %d %d", s, n, e)
			}
			if is && e != api.OK && !strings.ContainsAny(s[len(before):len(before)+1], `'/()\`) {
				t.Errorf("Lex of %q: %d %d", s, n, e)
			}
		}
	}
}

// P3.1: of two wrong bytes, the first one is told.
func TestFirstWrongByte(t *testing.T) {
	hold(t, [][2]string{
		{"$ 'a", wrongAt(0)},
		{"a $ \xff", wrongAt(2)},
		{"a \xff $", wrongAt(2)},
		{"('a \xff", wrongAt(1)},
		{"('a \xff' $", wrongAt(4)},
		{"('a' $ \xff'", wrongAt(5)},
		{"(<<E \xff", wrongAt(1)},
		{"(<<E \n\xff\nE\n$", wrongAt(6)},
		{"(<<E $\n\xff\nE\n", wrongAt(5)},
		{"(<<E . <<F\n\xff\nE\nF", wrongAt(11)},
		{"(<<E . <<F\n\xff\nE\n", wrongAt(7)},
		{"(<<E . \"\n\xff\nE\n", wrongAt(7)},
		{"(<<E . \"\n\xff\nE\n\"", wrongAt(9)},
		{"# \x01\n$", wrongAt(2)},
		{"$x # \x7f\n$x", wrongAt(5)},
		{"$x $x # \x7f\n", wrongAt(3)},
		{"s(a\x80) ;", wrongAt(0)},
		{"(abcdefghijklm 'a", wrongAt(1)},
		{"('a abcdefghijklm", wrongAt(1)},
		{";\x80abcdefghijklm", wrongAt(1)},
		{";%abcdefghijklm\x80", wrongAt(1)},
		{";% abcdefghijklm\x80", wrongAt(3)},
	})
}

// P3.1: a byte at which no token begins.
func TestNoToken(t *testing.T) {
	for _, s := range []string{"`", "~", "$", "@", "$ x", "@ x", "$#x", "@;", "$;", "'", `"`, "/", "q(", "\v", "\r"} {
		hold(t, [][2]string{{s, wrongAt(0)}, {";" + s, wrongAt(1)}, {"( " + s + " ;", wrongAt(2)}})
	}
	for _, s := range []string{"`", "~", "$", "@", "$x", "@x", "${", "$$x", "@{", "@$x", "$_", "$1", "$&", "$@", "@_", "'a'", `"a"`, "'"} {
		hold(t, [][2]string{{"1 " + s, wrongAt(2)}, {"a" + s, wrongAt(1)}, {"$x " + s, wrongAt(3)}})
	}
}

// P1
func TestNothingPanics(t *testing.T) {
	numbers := []int{math.MinInt, -1, 0, 1, 2, 3, 4, 9, 10, 99, math.MaxInt}
	texts := []string{"", "a", "'", `\`, "{", "}", "}}", "$", "$x", "%", "&", "<<", "<<E", "<<E\n", "<<'", "<<'E", "q", "q(", "s(a)", "s(a) ", "s(a) \\", "tr(a)", "s/", "m", "qw(", "#", "\n", "\xff", long("{", 4000), long("(", 4001), long("q(", 2000), long("'", 5000), "q" + long("(", 3000), "q(" + long(`\`, 3000), long("<<E\nE\n", 500), long("<<E;", 20) + "\n" + long("E\n", 20)}
	for _, s := range texts {
		lex.Lex(s)
		lex.Terms(s)
		lex.Quote(s)
		lex.IsWord(s)
		for _, n := range numbers {
			lex.Where(s, n)
			for _, m := range numbers {
				lex.Kept(s, n, m, s)
			}
			for _, u := range texts[:20] {
				l := []api.Token{{Kind: n, At: n, Text: s, Repl: u, More: u, Open: n}, {Kind: n, Text: u, Open: 2}}
				lex.Join(l)
				lex.Same(l, l[1:])
				l = []api.Token{{Kind: api.KSign, Text: "%", Open: n}, {Kind: api.KSign, Text: u, Open: 2}, {Kind: n, Text: s, Repl: s, More: s}}
				lex.Join(l)
			}
		}
	}
	lex.Join(nil)
	lex.Same(nil, nil)
}
