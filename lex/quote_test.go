package lex_test

import (
	"fmt"
	"strings"
	"testing"
)

// delimiters are those of quotes with the ones that end them.
var delimiters = []string{"()", "[]", "{}", "<>", "//", "!!", "||", "~~", "''", `""`}

// words that begin quotes, with the names that tell gives their tokens.
var quoteWords = [][2]string{{"q", "str"}, {"qq", "inter"}, {"qw", "words"}, {"m", "pat"}, {"s", "subst"}, {"tr", "trans"}}

// quoted is a quote of two parts (if it has a second one), and what is told of it when its texts stay as they are.
func quoted(word, name, delimiter, first, second string) (string, string) {
	open, end := delimiter[:1], delimiter[1:]
	switch {
	case name == "pat":
		return word + open + first + end, "pat(" + first + ";)"
	case name != "subst" && name != "trans":
		return word + open + first + end, name + "(" + first + ")"
	case open != end:
		second = open + second
	}
	return word + open + first + end + second + end, name + "(" + first + ";" + strings.TrimPrefix(second, open) + ";)"
}

// P3.1: each word that begins a quote, with each delimiter.
func TestQuotes(t *testing.T) {
	for _, w := range quoteWords {
		for _, d := range delimiters {
			for _, parts := range [][2]string{{"ab", "cd"}, {"", ""}, {"a", ""}, {"", "d"}, {"a;=b", "$x+1"}, {"\\n", "\\d"}} {
				s, want := quoted(w[0], w[1], d, parts[0], parts[1])
				hold(t, [][2]string{{s, want}, {"(" + s + ")", "( " + want + " )"}, {s + "+1", want + " + n(1)"}, {"1 " + w[0] + ";", "n(1) w(" + w[0] + ") ;"}})
				for n := len(w[0]) + 1; n < len(s); n++ {
					hold(t, [][2]string{{s[:n], wrongAt(0)}, {";;" + s[:n], wrongAt(2)}})
				}
			}
			// The word stands directly before the delimiter, where a term is expected.
			got := told(w[0] + " " + d[:1])
			if d[:1] == "'" || d[:1] == `"` || d[:1] == "~" {
				hold(t, [][2]string{{w[0] + " " + d[:1], wrongAt(len(w[0]) + 1)}})
			} else if !strings.HasPrefix(got, "w("+w[0]+") "+d[:1]) {
				t.Errorf("Lex of %s %s: %s", w[0], d[:1], got)
			}
			if got := told("1 " + w[0] + d); strings.Contains(got, w[1]+"(") {
				t.Errorf("Lex of 1 %s%s: %s", w[0], d, got)
			}
		}
		for _, c := range "#)]}>,;:=-+*.?^%&@$\\` 1a\n" {
			if got := told(w[0] + string(c) + "a" + string(c) + "b" + string(c)); strings.Contains(got, w[1]+"(") {
				t.Errorf("Lex of %s%c: %s", w[0], c, got)
			}
		}
	}
	hold(t, [][2]string{
		{"'a'", "str(a)"}, {"''", "str()"}, {`"a"`, "inter(a)"}, {`""`, "inter()"}, {"/a/", "pat(a;)"}, {"//", "pat(;)"}, {"'a''b'", wrongAt(3)}, {"'a\nb'", "str(a\nb)"}, {"('", wrongAt(1)}, {`("`, wrongAt(1)}, {"(/", wrongAt(1)},
		{"q{", wrongAt(0)}, {"q {", "w(q) {1"}, {"$x{q}", "v($x) {2 w(q) }2"}, {"q=>1", "w(q) => n(1)"}, {"qx(a)", "w(qx) ( w(a) )"}, {"y/a/b/", "w(y) / w(a) / w(b) /"}, {"a::q(a)", "w(a::q) ( w(a) )"}, {"q::a(a)", "w(q::a) ( w(a) )"}, {"$q(a)", "v($q) ( w(a) )"}, {"&q(a)", "v(&q) ( w(a) )"}, {"->q(a)", "-> str(a)"}, {"print q(a)", "w(print) w(q) ( w(a) )"}, {"return q(a)", "w(return) str(a)"}, {"q(a)q(b)", "str(a) w(q) ( w(b) )"}, {"qq q(a)", "w(qq) w(q) ( w(a) )"},
	})
}

// P3.1: pairs of partners in between belong to the text; other delimiters are as other bytes.
func TestPairs(t *testing.T) {
	for _, d := range delimiters[:4] {
		o, c := d[:1], d[1:]
		hold(t, [][2]string{
			{"q" + o + "a" + o + "b" + c + "c" + c, "str(a" + o + "b" + c + "c)"},
			{"q" + o + o + o + c + c + c, "str(" + o + o + c + c + ")"},
			{"q" + o + o + c + o + c + c, "str(" + o + c + o + c + ")"},
			{"q" + o + o + c, wrongAt(0)},
			{"q" + o + `a\` + c + c, "str(a" + c + ")"},
			{"q" + o + `a\` + o + c, "str(a" + o + ")"},
			{"q" + o + `a\\` + c, `str(a\)`},
			{"q" + o + o + `\` + c + c + c, "str(" + o + c + c + ")"},
			{"qq" + o + "a" + o + "b" + c + c, "inter(a" + o + "b" + c + ")"},
			{"qw" + o + "a " + o + " b" + c + c, "words(a " + o + " b" + c + ")"},
			{"m" + o + "a" + o + "b" + c + c, "pat(a" + o + "b" + c + ";)"},
			{"s" + o + "a" + o + "b" + c + c + o + o + c + "d" + c, "subst(a" + o + "b" + c + ";" + o + c + "d;)"},
			{"tr" + o + o + c + c + o + "e" + o + c + c, "trans(" + o + c + ";e" + o + c + ";)"},
		})
		for _, other := range delimiters {
			if other != d && other != `""` {
				hold(t, [][2]string{{"q" + o + other[:1] + c, "str(" + other[:1] + ")"}, {"qq" + o + other[1:] + c, "inter(" + other[1:] + ")"}, {"m" + o + other[1:] + c, "pat(" + other[1:] + ";)"}})
			}
		}
	}
	hold(t, [][2]string{{"q/(/", "str(()"}, {"q!)!", "str())"}, {"'('", "str(()"}, {"/(/", "pat((;)"}, {"q'\"'", "str(\")"}, {`q"'"`, "str(')"}})
}

// P3.1: a `\` before a delimiter, before `\` and before other bytes, in texts of each kind.
func TestBackslashes(t *testing.T) {
	for _, d := range delimiters {
		for _, c := range []string{d[:1], d[1:]} {
			slash, mark := `\`+c, c
			if c == `"` {
				mark = `\"` // with interpolation it keeps its backslash
			}
			inPattern := slash
			if c == "/" {
				inPattern = "/"
			}
			for _, w := range []struct{ word, text string }{
				{"q", "str(a" + c + "b)"}, {"qq", "inter(a" + mark + "b)"}, {"qw", "words(a" + c + "b)"}, {"m", "pat(a" + inPattern + "b;)"},
			} {
				hold(t, [][2]string{{w.word + d[:1] + "a" + slash + "b" + d[1:], w.text}})
			}
			first, second := "a"+slash+"b", "c"+slash+"d"
			middle := d[1:]
			if d[0] != d[1] {
				middle = d[1:] + d[:1]
			}
			hold(t, [][2]string{
				{"s" + d[:1] + first + middle + second + d[1:], "subst(a" + inPattern + "b;c" + mark + "d;)"},
				{"tr" + d[:1] + first + middle + second + d[1:], "trans(a" + c + "b;c" + c + "d;)"},
			})
		}
	}
	hold(t, [][2]string{
		{`'\\'`, `str(\)`}, {`'\''`, "str(')"}, {`'\n'`, `str(\n)`}, {`'\"'`, `str(\")`}, {`'a\\\'b'`, `str(a\'b)`}, {`'\\n'`, `str(\n)`}, {`'\`, wrongAt(0)}, {`'\'`, wrongAt(0)}, {`'\\\'`, wrongAt(0)}, {"'\\\n'", "str(\\\n)"},
		{`q(\')`, `str(\')`}, {`q(\\)`, `str(\)`}, {`q(\\\\)`, `str(\\)`}, {`q(\[)`, `str(\[)`}, {`q/\!/`, `str(\!)`},
		{`"\\"`, `inter(\\)`}, {`"\""`, `inter(\")`}, {`"\n\$"`, `inter(\n\$)`}, {`"\'"`, `inter(\')`}, {`"\\\""`, `inter(\\\")`}, {`"\`, wrongAt(0)}, {`"\"`, wrongAt(0)},
		{`qq(")`, `inter(\")`}, {`qq(\")`, `inter(\")`}, {`qq(\\")`, `inter(\\\")`}, {`qq(\\\")`, `inter(\\\")`}, {`qq("")`, `inter(\"\")`}, {`qq(a\)"\()`, `inter(a)\"()`}, {`qq(\\\))`, `inter(\\))`}, {`qq(\[)`, `inter(\[)`}, {`qq(\n)`, `inter(\n)`}, {`qq'"'`, `inter(\")`}, {`qq'\''`, "inter(')"}, {`qq"\""`, `inter(\")`}, {`qq"\'"`, `inter(\')`}, {`qq{\{}`, "inter({)"}, {`qq/\//`, "inter(/)"}, {`qq(\/)`, `inter(\/)`},
		{`qw(\\ \) \()`, `words(\ ) ()`}, {`qw(a\ b)`, `words(a\ b)`}, {`qw(a\\ b)`, `words(a\ b)`}, {`qw(\n \")`, `words(\n \")`}, {`qw'\''`, "words(')"},
		{`/\\/`, `pat(\\;)`}, {`/\//`, "pat(/;)"}, {`/\\\//`, `pat(\\/;)`}, {`/\d/`, `pat(\d;)`}, {`/\"/`, `pat(\";)`}, {`m!\!!`, `pat(\!;)`}, {`m(\/)`, "pat(/;)"}, {`m(/)`, "pat(/;)"}, {`m(\\/)`, `pat(\\/;)`}, {`m(\\\/)`, `pat(\\/;)`}, {`m(\()`, `pat(\(;)`}, {`m"\""`, `pat(\";)`}, {`m(")`, `pat(";)`}, {`/\`, wrongAt(0)},
		{`s(\/)(\/)`, "subst(/;/;)"}, {`s(/)(/)`, "subst(/;/;)"}, {`s(\))(\))`, `subst(\););)`}, {`s(\\/)(\\/)`, `subst(\\/;\\/;)`}, {`s(a)(")`, `subst(a;\";)`}, {`s(")(\")`, `subst(";\";)`}, {`s(a)(\\")`, `subst(a;\\\";)`}, {`s!\!!\!!`, `subst(\!;!;)`}, {`s(a)[\)]`, `subst(a;\);)`}, {`s(a)[\]]`, `subst(a;];)`}, {`s(\])[a]`, `subst(\];a;)`}, {`s/a/\n\/\\/`, `subst(a;\n/\\;)`}, {`s"a"\""`, `subst(a;\";)`}, {`s'a'"'`, `subst(a;\";)`}, {`s/a/b\`, wrongAt(0)}, {`s/a/b\/`, wrongAt(0)},
		{`tr/\//\//`, "trans(/;/;)"}, {`tr(\/)(\/)`, `trans(\/;\/;)`}, {`tr(\\)(\\)`, `trans(\;\;)`}, {`tr(\))[\)]`, `trans();\);)`}, {`tr(\])[\]]`, `trans(\];];)`}, {`tr/\n/"/`, `trans(\n;";)`}, {`tr(a)(\()`, "trans(a;(;)"},
	})
}

// P3.1: words between blanks.
func TestQuotedWords(t *testing.T) {
	hold(t, [][2]string{
		{"qw()", "words()"}, {"qw( )", "words()"}, {"qw( \t\n )", "words()"}, {"qw(a)", "words(a)"}, {"qw( a )", "words(a)"}, {"qw(a b)", "words(a b)"}, {"qw(a  b\tc\nd \t\n e)", "words(a b c d e)"}, {"qw(a,b 'c')", "words(a,b 'c')"}, {"qw/a b/", "words(a b)"}, {"qw( a(b c) )", "words(a(b c))"},
	})
}

// P3.1: second parts.
func TestSecondParts(t *testing.T) {
	for _, w := range [][2]string{{"s", "subst"}, {"tr", "trans"}} {
		for _, d := range delimiters[:4] {
			for _, e := range delimiters {
				for _, between := range []string{"", " ", "\t", "\n", "\n \t\n"} {
					s := w[0] + d[:1] + "a" + d[1:] + between + e[:1] + "b" + e[1:]
					want := w[1] + "(a;b;)"
					hold(t, [][2]string{{s, want}, {s[:len(s)-1], wrongAt(0)}, {s[:len(s)-2], wrongAt(0)}, {s + ";", want + " ;"}})
				}
			}
			for _, other := range []string{"", " ", "a", " a", ")", "}", ">", "#", " #\n(b)", ";(b)", "\\(b)", ",", "=b=", "`b`", "1"} {
				hold(t, [][2]string{{"(" + w[0] + d[:1] + "a" + d[1:] + other, wrongAt(1)}})
			}
		}
		for _, d := range delimiters[4:] {
			c := d[:1]
			hold(t, [][2]string{
				{w[0] + c + "a" + c + " b" + c, w[1] + "(a; b;)"},
				{w[0] + c + "a" + c + "(b)" + c, w[1] + "(a;(b);)"},
				{w[0] + c + "a" + c + " (b)", wrongAt(0)},
				{w[0] + c + "a" + c + c, w[1] + "(a;;)"},
				{w[0] + c + c + "b" + c, w[1] + "(;b;)"},
				{w[0] + c + "a" + c, wrongAt(0)},
			})
		}
	}
	hold(t, [][2]string{{"s(a)(b(c)d)", "subst(a;b(c)d;)"}, {"s(a)<b<c>d>", "subst(a;b<c>d;)"}, {"s(a)/b(/", "subst(a;b(;)"}, {"s(a)(b) (c)", "subst(a;b;) ( w(c) )"}, {"s(a){b}{c}", "subst(a;b;) {3 w(c) }3"}, {"s(a)'b'", "subst(a;b;)"}})
}

// orders are the flags in their order.
var orders = map[string]string{"pat": "imsxg", "subst": "imsxg", "trans": "cdr"}

// P3.1: flags in each order; what does not fit is no flag any more.
func TestFlags(t *testing.T) {
	for name, order := range orders {
		for bits := range 1 << len(order) {
			flags := ""
			for i := range len(order) {
				if bits>>i&1 == 1 {
					flags += order[i : i+1]
				}
			}
			for _, s := range quotesWithFlags(name) {
				want := strings.TrimSuffix(s[1], ")")
				hold(t, [][2]string{{s[0] + flags, want + flags + ")"}, {s[0] + flags + ";", want + flags + ") ;"}, {s[0] + " " + flags, strings.TrimSpace(s[1] + " " + wordOf(flags))}})
			}
		}
		for i := range len(order) {
			for k := range i + 1 {
				later, earlier := order[i:i+1], order[k:k+1]
				for _, s := range quotesWithFlags(name) {
					want := strings.TrimSuffix(s[1], ")") + later + ") w(" + earlier + ")"
					hold(t, [][2]string{{s[0] + later + earlier, want}})
				}
			}
		}
		for c := byte('!'); c <= '~'; c++ {
			if strings.IndexByte(order, c) < 0 {
				for _, s := range quotesWithFlags(name) {
					if got := told(s[0] + string(c)); !strings.HasPrefix(got, s[1]) && got != wrongAt(len(s[0])) {
						t.Errorf("Lex of %s%c: %s", s[0], c, got)
					}
				}
			}
		}
	}
	hold(t, [][2]string{{"/a/if", "pat(a;i) w(f)"}, {"/a/x 3", "pat(a;x) n(3)"}, {"/a/ x 3", "pat(a;) w(x) n(3)"}, {"/a/e", "pat(a;) w(e)"}, {"/a/i1", "pat(a;i) n(1)"}, {"/a/\ni", "pat(a;) w(i)"}, {"q(a)i", "str(a) w(i)"}, {"'a'i", "str(a) w(i)"}, {"qw(a)g", "words(a) w(g)"}, {"<<Ei\nEi", "inter()"}})
}

func wordOf(s string) string {
	if s == "" {
		return ""
	}
	return "w(" + s + ")"
}

// quotesWithFlags are quotes of a kind, and what is told of them.
func quotesWithFlags(name string) [][2]string {
	switch name {
	case "pat":
		return [][2]string{{"/a/", "pat(a;)"}, {"m(a)", "pat(a;)"}, {"m!a!", "pat(a;)"}}
	case "subst":
		return [][2]string{{"s/a/b/", "subst(a;b;)"}, {"s(a) {b}", "subst(a;b;)"}}
	}
	return [][2]string{{"tr/a/b/", "trans(a;b;)"}, {"tr(a)[b]", "trans(a;b;)"}}
}

// P3.1: a `\` takes each byte along, so that it ends nothing.
func TestTakenAlong(t *testing.T) {
	for c := byte(32); c <= 126; c++ {
		s := fmt.Sprintf(`'\%c'`, c)
		want := fmt.Sprintf(`str(\%c)`, c)
		if c == '\'' {
			want = "str(')"
		}
		if c == '\\' {
			want = `str(\)`
		}
		hold(t, [][2]string{{s, want}})
		pattern := fmt.Sprintf(`pat(\%c;)`, c)
		if c == '/' {
			pattern = "pat(/;)"
		}
		hold(t, [][2]string{{fmt.Sprintf(`m{\%c}`, c), pattern}, {fmt.Sprintf(`/\%c/`, c), pattern}})
	}
}
