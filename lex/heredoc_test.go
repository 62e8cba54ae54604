package lex_test

import (
	"testing"

	"motley/api"
	"motley/lex"
)

// P3.1: heredocs with `'`, with `"` and with none.
func TestHeredocs(t *testing.T) {
	hold(t, [][2]string{
		{"<<E\nt\nE\n", "inter(t\n)"}, {"<<E\nt\nE", "inter(t\n)"}, {"<<\"E\"\nt\nE\n", "inter(t\n)"}, {"<<'E'\nt\nE\n", "str(t\n)"},
		{"<<E\nE\n", "inter()"}, {"<<E\nE", "inter()"}, {"<<'E'\nE\n", "str()"}, {"<<\"E\"\nE\n1", "inter() n(1)"}, {"<<E\n\nE\n", "inter(\n)"}, {"<<E\n\n\nE", "inter(\n\n)"},
		{"<<E;\na\nb\nE\n1;", "inter(a\nb\n) ; n(1) ;"}, {"f(<<E, 1);\na\nE\ng()", "w(f) ( inter(a\n) , n(1) ) ; w(g) ( )"}, {"<<_\nE\n_\n", "inter(E\n)"}, {"<<a::b\na\na::b\n1", "inter(a\n) n(1)"}, {"<<E+1\nE", "inter() + n(1)"}, {"<<E\nE\n+1", "inter() + n(1)"}, {"<<E\nE\n/ a / 1", "inter() / w(a) / n(1)"},
		// Only a line that is the word alone ends it.
		{"<<E\n E\nE \nEE\ne\nE;\nE\n", "inter( E\nE \nEE\ne\nE;\n)"}, {"<<E\nE::a\nE\n1", "inter(E::a\n) n(1)"}, {"<<E\n'E'\nE\n", "inter('E'\n)"},
		// What stands in the lines is no part of the source.
		{"<<E\n' $ { /\n#\nE\n1", "inter(' $ { /\n#\n) n(1)"}, {"<<E\n<<F\nE\n1", "inter(<<F\n) n(1)"}, {"<<'E' . 1\n}\nE\n{", "str(}\n) . n(1) {3"}, {"<<E # a\nb\nE\n1", "inter(b\n) n(1)"}, {"<<E # <<F\nb\nE\n1", "inter(b\n) n(1)"},
		// Interpolation.
		{"<<E\na\"b\nE\n", "inter(a\\\"b\n)"}, {"<<E\na\\\"b\nE\n", "inter(a\\\"b\n)"}, {"<<E\na\\\\\"b\nE\n", "inter(a\\\\\\\"b\n)"}, {"<<E\n$x\\n\\$ \\'\nE\n", "inter($x\\n\\$ \\'\n)"}, {"<<E\na\\\nE\n", "inter(a\\\n)"}, {"<<E\n\\\n\"\nE\n", "inter(\\\n\\\"\n)"}, {"<<\"E\"\n\"\"\nE\n", "inter(\\\"\\\"\n)"},
		{"<<'E'\na\"b\\\"\\\\\\'\nE\n", "str(a\"b\\\"\\\\\\'\n)"}, {"<<'E'\na\\\nE\n", "str(a\\\n)"}, {"<<'E'\n\\n$x\nE\n", "str(\\n$x\n)"},
	})
	for _, word := range []string{"E", "_", "EOT", "a1", "a::b", "abcdefghijkl", "q", "or", "E_9"} {
		for _, mark := range []string{"", `"`} {
			hold(t, [][2]string{{"<<" + mark + word + mark + ";\nx\n" + word + "\n2", "inter(x\n) ; n(2)"}})
		}
		hold(t, [][2]string{{"<<'" + word + "';\nx\n" + word + "\n2", "str(x\n) ; n(2)"}})
	}
}

// P3.1: what is no heredoc are signs.
func TestNoHeredocs(t *testing.T) {
	hold(t, [][2]string{
		{"<<", "< <"}, {"<<1", "< < n(1)"}, {"<< E\nE", "< < w(E) w(E)"}, {"<<\nE\nE", "< < w(E) w(E)"}, {"<<$x", "< < v($x)"}, {"<<(E)", "< < ( w(E) )"}, {"<< 'E'", "< < str(E)"}, {"<<''", "< < str()"}, {"<<'E F'", "< < str(E F)"}, {"<<' E'", "< < str( E)"}, {"<<'E '", "< < str(E )"}, {"<<'1'", "< < str(1)"}, {"<<\"\"", "< < inter()"}, {"<<\"E\\\"\"", "< < inter(E\\\")"}, {"<<\"E F\"", "< < inter(E F)"}, {"<<'E\"\nE\n'", "< < str(E\"\nE\n)"}, {"<<'E::'", "< < str(E::)"}, {"<<#E\nE", "< < w(E)"}, {"<<<E\nE", "< inter()"}, {"<<<E", wrongAt(1)}, {"<< <E", "< < < w(E)"}, {"<<=E", "< <= w(E)"}, {"<<::E", "< < : : w(E)"}, {"<<~E~", wrongAt(2)}, {"<<`E`", wrongAt(2)}, {"<<\\E", "< < \\ w(E)"}, {"<<%E", "< < v(%E)"}, {"<<q(E)", wrongAt(0)}, {"<<-E", "< < - w(E)"},
		{"<<'abcdefghijklm'", "< < str(abcdefghijklm)"}, {"<<\"abcdefghijklm\"", "< < inter(abcdefghijklm)"}, {"<<abcdefghijklm\nabcdefghijklm", wrongAt(2)},
		{"1<<E\nE", "n(1) < < w(E) w(E)"}, {"$x <<E\nE", "v($x) < < w(E) w(E)"}, {"f <<E\nE", "w(f) < < w(E) w(E)"}, {"1 <<'E'", "n(1) < < str(E)"}, {")<<\"E\"", ") < < inter(E)"}, {"1 < <<E\nE", "n(1) < inter()"}, {"1<<<E\nE", "n(1) < inter()"}, {"1< <<E\nE\n", "n(1) < inter()"}, {"x <<E\nE", "w(x) inter()"},
		{"<<'E", wrongAt(2)}, {"<<\"E", wrongAt(2)}, {"<<'E\nE\n", wrongAt(2)}, {"<<\"E'\nE\n", wrongAt(2)},
	})
}

// P3.1: a heredoc without an end.
func TestHeredocsWithoutEnd(t *testing.T) {
	for _, s := range []string{"<<E", "<<E ", "<<E;1", "<<E\n", "<<E\na", "<<E\na\n", "<<E\n E", "<<E\nE ", "<<E\n\n", "<<E\nEE\n", "<<E\n\"E\"\n", "<<'E'\ne\n", "<<\"E\"\nE\t\n", "<<E # \nE#\n", "<<E::a\nE\n"} {
		hold(t, [][2]string{{s, wrongAt(0)}, {"f(" + s, wrongAt(2)}, {"\n1 +" + s, wrongAt(4)}, {"<<F . " + s, wrongAt(0)}})
	}
	hold(t, [][2]string{{"<<F . <<E\nF\n", wrongAt(6)}, {"<<F . <<E\nE\nF\n", wrongAt(6)}, {"<<E . <<E\nE\n", wrongAt(6)}, {"<<F . <<E . <<G\nF\nE\n", wrongAt(12)}, {"<<E\nE\n. <<E\n", wrongAt(8)}})
}

// P3.1: several heredocs, in one line and in lines behind each other.
func TestSeveralHeredocs(t *testing.T) {
	hold(t, [][2]string{
		{"<<E . <<F\na\nE\nb\nF\n1", "inter(a\n) . inter(b\n) n(1)"}, {"<<E.<<E\na\nE\nb\nE\n1", "inter(a\n) . inter(b\n) n(1)"}, {"<<'A', <<\"B\", <<C;\n1\nA\n2\nB\nC\n$x", "str(1\n) , inter(2\n) , inter() ; v($x)"}, {"<<E . <<F\nF\nE\nE\nF", "inter(F\n) . inter(E\n)"},
		{"<<E\na\nE\n. <<F\nb\nF\n. 1", "inter(a\n) . inter(b\n) . n(1)"}, {"<<E;\nE\n<<E;\nE\n<<E;\nE\n", "inter() ; inter() ; inter() ;"}, {"(<<E,\na\nE\n<<F,\nb\nF\n<<G)\nc\nG\n;", "( inter(a\n) , inter(b\n) , inter(c\n) ) ;"},
		{"# <<E\n<<F\n1\nF\n", "inter(1\n)"}, {"<<E#\n1\nE\n#\n2", "inter(1\n) n(2)"}, {"'<<F' . <<E\n1\nE\n", "str(<<F) . inter(1\n)"},
	})
	l, _, _ := lex.Lex("<<E . <<'F' . 1\na\nE\nF\n. 2")
	want := []api.Token{{Kind: api.KInter, At: 0, Text: "a\n"}, {Kind: api.KSign, At: 4, Text: "."}, {Kind: api.KStr, At: 6}, {Kind: api.KSign, At: 12, Text: "."}, {Kind: api.KNum, At: 14, Text: "1"}, {Kind: api.KSign, At: 22, Text: "."}, {Kind: api.KNum, At: 24, Text: "2"}}
	for i, x := range l {
		if len(l) != len(want) || x != want[i] {
			t.Errorf("Lex of heredocs: %v", l)
		}
	}
}

// P3.1: a quote that goes on goes on behind the lines of the heredocs of its line.
func TestHeredocsInQuotes(t *testing.T) {
	hold(t, [][2]string{
		{"<<E . 'a\nx\nE\nb'", "inter(x\n) . str(a\nb)"}, {"<<E . \"a\nx\nE\nb\" . 1", "inter(x\n) . inter(a\nb) . n(1)"}, {"<<E . 'a\n'\nE\n'", "inter('\n) . str(a\n)"}, {"<<E . qw(a\nx\nE\nb)", "inter(x\n) . words(a b)"}, {"<<E =~ /a\nx\nE\nb/i", "inter(x\n) =~ pat(a\nb;i)"}, {"<<E =~ s(a)\nx\nE\n(b)", "inter(x\n) =~ subst(a;b;)"}, {"<<E =~ s/a\nx\nE\nb/c/", "inter(x\n) =~ subst(a\nb;c;)"}, {"<<E =~ s/a/b\nx\nE\nc/", "inter(x\n) =~ subst(a;b\nc;)"}, {"<<E =~ tr(a) \nx\nE\n\n (b)", "inter(x\n) =~ trans(a;b;)"},
		{"<<E . 'a\\\nx\nE\nb'", "inter(x\n) . str(a\\\nb)"}, {"<<E . 'a\\\nx\nE\n'", "inter(x\n) . str(a\\\n)"}, {"<<E . 'a\\\nx\nE\n\\''", "inter(x\n) . str(a\\\n')"},
		{"<<E . <<F . 'a\nx\nE\ny\nF\nb'", "inter(x\n) . inter(y\n) . str(a\nb)"}, {"<<E . 'a\nx\nE\nb' . <<F\ny\nF\n. 2", "inter(x\n) . str(a\nb) . inter(y\n) . n(2)"}, {"<<E . 'a\nx\nE\nb' . <<E . 'c\ny\nE\nd' . 2", "inter(x\n) . str(a\nb) . inter(y\n) . str(c\nd) . n(2)"}, {"'a\nb' . <<E . 'c\nx\nE\nd'", "str(a\nb) . inter(x\n) . str(c\nd)"},
		{"<<E . 'a\nx\nE\n", wrongAt(6)}, {"<<E . 'a\nx\nE", wrongAt(6)}, {"<<E . 'a\nx'\nE\n", wrongAt(6)}, {"<<E . 'a\n'\n", wrongAt(0)}, {"<<E =~ s(a)\nx\nE\n", wrongAt(7)}, {"<<E . 'a\nx\nE\n' $", wrongAt(15)}, {"<<E . 'a\\\nx\nE", wrongAt(6)},
		// The word of an end is no quote, and what stands in a quote is no heredoc.
		{"'<<E\nE\n'", "str(<<E\nE\n)"}, {"'a' . <<E . 'b\n<<F\nE\nc'", "str(a) . inter(<<F\n) . str(b\nc)"},
	})
}
