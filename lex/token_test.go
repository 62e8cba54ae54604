package lex_test

import (
	"slices"
	"strings"
	"testing"

	"motley/api"
	"motley/lex"
)

// signs are the signs that stand anywhere, as the chapter lists them.
var signs = strings.Fields(`( ) [ ] { } , ; : ? \ = == != < > <= >= <=> + - * / % . .. ++ -- += -= *= /= %= .= ||= &&= //= || && // ! =~ !~ => -> & | ^`)

// signAt is the longest sign at the begin of a text, or "".
func signAt(s string) string {
	longest := ""
	for _, sign := range signs {
		if strings.HasPrefix(s, sign) && len(sign) > len(longest) {
			longest = sign
		}
	}
	return longest
}

// texts are the Texts of tokens.
func texts(l []api.Token) []string {
	var r []string
	for _, t := range l {
		r = append(r, t.Text)
	}
	return r
}

// P3.1: each sign, where an operator is expected and where a term is.
func TestSigns(t *testing.T) {
	if len(signs) != 48 {
		t.Fatalf("%d signs", len(signs))
	}
	for _, sign := range signs {
		l, n, e := lex.Lex("1" + sign)
		if n != 2 || e != api.OK || l[1].Kind != api.KSign || l[1].Text != sign || l[1].At != 1 || l[1].Repl != "" || l[1].More != "" {
			t.Errorf("Lex of 1%s: %v %d", sign, l, e)
		}
		if sign[0] == '/' {
			continue
		}
		l, n, e = lex.Lex(sign)
		if n != 1 || e != api.OK || l[0].Kind != api.KSign || l[0].Text != sign {
			t.Errorf("Lex of %s: %v %d", sign, l, e)
		}
	}
	hold(t, [][2]string{
		{"/", wrongAt(0)}, {"/=", wrongAt(0)}, {"//", "pat(;)"}, {"//=", "pat(;) ="}, {"/=/", "pat(=;)"},
		{"1/", "n(1) /"}, {"1//=/a/", "n(1) //= pat(a;)"}, {"1///", wrongAt(3)},
		{"1<<E", "n(1) < < w(E)"}, {"1<<=E", "n(1) < <= w(E)"}, {"1**2", "n(1) * * n(2)"}, {"1...2", "n(1) .. . n(2)"}, {"1.2", "n(1) . n(2)"}, {"1..2", "n(1) .. n(2)"},
		{"1<=>2", "n(1) <=> n(2)"}, {"1<==>2", "n(1) <= => n(2)"}, {"1|=2", "n(1) | = n(2)"}, {"1&=2", "n(1) & = n(2)"}, {"1^=2", "n(1) ^ = n(2)"},
		{"$x=~m(a)", "v($x) =~ pat(a;)"}, {"$x= ~", wrongAt(4)}, {"1---2", "n(1) -- - n(2)"}, {"1+++2", "n(1) ++ + n(2)"}, {"1- -2", "n(1) - - n(2)"},
		{"a:::b", "w(a) : : : w(b)"}, {"->", "->"}, {"=>", "=>"}, {"!~!=!!", "!~ != ! !"}, {`\\`, `\ \`},
	})
}

// P3.1: of what stands at a place, the longest sign is taken.
func TestLongestSigns(t *testing.T) {
	for _, a := range signs {
		for _, b := range signs {
			for _, c := range []string{"", "=", ">"} {
				s := a + b + c
				if strings.Contains(s, "/") {
					continue
				}
				want, rest := []string{"1"}, s
				for sign := signAt(rest); sign != ""; sign = signAt(rest) {
					want = append(want, sign)
					rest = rest[len(sign):]
				}
				l, n, e := lex.Lex("1" + s)
				if rest == "" && (e != api.OK || !slices.Equal(texts(l), want)) {
					t.Errorf("Lex of 1%s: %v %d", s, l, e)
				}
				if rest != "" && (e != api.ErrSyntax || n != 1+len(s)-len(rest)) {
					t.Errorf("Lex of 1%s: %v %d %d", s, l, n, e)
				}
			}
		}
	}
}

// P3.1: what is expected behind a token, and what begins there.
func TestExpected(t *testing.T) {
	operators := []string{"1", "$x", "@x", "%x", "&x", "$_", "@_", "$1", "$@", "$&", "'a'", `"a"`, "/a/", "/a/i", "q(a)", "qq(a)", "qw(a)", "m(a)", "s(a)(b)", "s/a/b/g", "tr/a/b/", "tr/a/b/c", "<<E",
		"(1)", "[1]", ")", "]", "$x{a}", "% {a}", "&\n{a}", "({b=>1}", "f({a})", "${a}", "1++", "1--", "$x++", "$x++--", "f", "print", "last", "next", "BEGIN", "END", "package", "push", "shift", "xx", "x1", "X", "If", "returns", "_", "a::or", "or::a", "not_", "q", "qq", "qw", "m", "s", "tr", "y"}
	terms := []string{"", ";", "{1;}", "{;}", "}", "++", "--", "1 + ++", "1+ --", "1%", "1&", "%", "&", "if (1) {}", "sub {}", "${", "@{", "$x{", "f({", "(", "[", "a:", "1 ?", "1 ? 2 :", "$x->", "{"}
	for _, w := range strings.Fields("return and or not x lt gt le ge eq ne cmp if unless elsif else while until for do eval sub map grep sort my our local") {
		terms = append(terms, w, "1 "+w)
	}
	for _, sign := range signs {
		if sign[0] != '/' && !slices.Contains([]string{")", "]", "}", "++", "--"}, sign) {
			terms = append(terms, sign)
		}
		if !slices.Contains([]string{")", "]", "}", "++", "--"}, sign) {
			terms = append(terms, "1"+sign)
		}
	}
	for i, s := range slices.Concat(operators, terms) {
		term := i >= len(operators)
		tail := " / a / 1"
		if strings.Contains(s, "<<E") {
			tail += "\nE"
		}
		l, n, e := lex.Lex(s + tail)
		k, f := lex.Terms(s + tail)
		if e != api.OK || f != api.OK || len(k) != n {
			t.Errorf("Lex and Terms of %q: %v %v %d %d", s+tail, l, k, e, f)
			continue
		}
		at := len(s) + 1
		first := slices.IndexFunc(l, func(t api.Token) bool { return t.At == at })
		if first < 0 || k[first] != term || (l[first].Kind == api.KPat) != term || (l[first].Kind == api.KSign) == term {
			t.Errorf("Lex and Terms behind %q: %s %v", s, tell(l), k)
		}
	}
}

// P3.1: Terms goes through all tokens.
func TestTerms(t *testing.T) {
	for s, want := range map[string][]bool{
		"$x / 2":            {true, false, true},
		"f(/2/)":            {true, false, true, false},
		"$x{a}{b} = 1;":     {true, false, true, false, false, true, false, false, true, false},
		"if (1) {2} 3":      {true, true, true, false, false, true, false, true},
		"f({a => 1}) x 2":   {true, false, true, true, false, true, false, false, false, true},
		"++$x++ + 1":        {true, true, false, false, true},
		"$$x % &$y":         {true, true, false, true, true},
		"<<E . 1\n$ x\nE":   {true, false, true},
		"return x x":        {true, true, true},
		"L: for (q(a)) { }": {true, false, true, true, true, false, false, true},
	} {
		if l, e := lex.Terms(s); !slices.Equal(l, want) || e != api.OK {
			t.Errorf("Terms of %q: %v %d", s, l, e)
		}
	}
}

// P3.1: words and how long they are.
func TestWords(t *testing.T) {
	hold(t, [][2]string{
		{"abcdefghijkl", "w(abcdefghijkl)"}, {"abcdefghijklm", wrongAt(0)}, {"a abcdefghijklm", wrongAt(2)}, {"abcdefghijkl m", "w(abcdefghijkl) w(m)"},
		{"a1234567890_", "w(a1234567890_)"}, {"a1234567890_b", wrongAt(0)}, {"a::cdefghijkl", wrongAt(0)}, {"a::defghijkl", "w(a::defghijkl)"}, {"abcdefghij::k", wrongAt(0)}, {"abcdefghij::", "w(abcdefghij) : :"}, {"abcdefghijkl::", "w(abcdefghijkl) : :"}, {"abcdefghijkl::m", wrongAt(0)},
		{"_", "w(_)"}, {"_a", "w(_a)"}, {"__", "w(__)"}, {"A_z9Z", "w(A_z9Z)"}, {"a b", "w(a) w(b)"}, {"a\tb\nc", "w(a) w(b) w(c)"}, {"a#b\nc", "w(a) w(c)"},
		{"a::b", "w(a::b)"}, {"a::_", "w(a::_)"}, {"a::b::c", "w(a::b::c)"}, {"a::b2::_3", "w(a::b2::_3)"}, {"a::1", "w(a) : : n(1)"}, {"a::", "w(a) : :"}, {"a:b", "w(a) : w(b)"}, {"a::b::", "w(a::b) : :"}, {"a::b:c", "w(a::b) : w(c)"}, {"a:: b", "w(a) : : w(b)"}, {"a::$x", "w(a) : : v($x)"}, {"a::::b", "w(a) : : : : w(b)"}, {"::a", ": : w(a)"}, {"1::a", "n(1) : : w(a)"}, {"a::{", "w(a) : : {3"}, {"a::-", "w(a) : : -"},
		{"q a", "w(q) w(a)"}, {"qr", "w(qr)"}, {"mm", "w(mm)"}, {"sub", "w(sub)"},
	})
	for c := range 256 {
		letter := c >= 'a' && c <= 'z' || c >= 'A' && c <= 'Z' || c == '_'
		s := string([]byte{byte(c)})
		if got := told(s); (got == "w("+s+")") != letter {
			t.Errorf("Lex of %q: %s", s, got)
		}
		digit := c >= '0' && c <= '9'
		if got := told("a" + s); (got == "w(a"+s+")") != (letter || digit) {
			t.Errorf("Lex of %q: %s", "a"+s, got)
		}
		if got := told(s); (got == "n("+s+")") != digit {
			t.Errorf("Lex of %q: %s", s, got)
		}
	}
}

// P3.1: numbers.
func TestNumbers(t *testing.T) {
	hold(t, [][2]string{
		{"0", "n(0)"}, {"007", "n(007)"}, {"12ab", "n(12) w(ab)"}, {"1_000", "n(1) w(_000)"}, {"1 2", "n(1) n(2)"}, {"1.5", "n(1) . n(5)"}, {"-1", "- n(1)"}, {"0x1F", "n(0) w(x1F)"}, {"a 1", "w(a) n(1)"},
		{long("9", 300), "n(" + long("9", 300) + ")"},
	})
}

// P3.1: variables of each form, where a term is expected.
func TestVariables(t *testing.T) {
	hold(t, [][2]string{
		{"$a", "v($a)"}, {"@a", "v(@a)"}, {"%a", "v(%a)"}, {"&a", "v(&a)"}, {"$a::b", "v($a::b)"}, {"@a::b::", "v(@a::b) : :"}, {"$a1_", "v($a1_)"}, {"$_a", "v($_a)"}, {"$abcdefghijkl", "v($abcdefghijkl)"},
		{"$_", "v($_)"}, {"@_", "v(@_)"}, {"%_", "v(%_)"}, {"&_", "v(&_)"}, {"$@", "v($@)"}, {"$&", "v($&)"}, {"$__", "v($__)"}, {"$@a", "v($@) w(a)"}, {"$&a", "v($&) w(a)"}, {"$&&1", "v($&) & n(1)"}, {"$@{a}", "v($@) {2 w(a) }2"}, {"$&{a}", "v($&) {2 w(a) }2"},
		{"$1", "v($1)"}, {"$2", "v($2)"}, {"$3", "v($3)"}, {"$4", "v($4)"}, {"$5", "v($5)"}, {"$6", "v($6)"}, {"$7", "v($7)"}, {"$8", "v($8)"}, {"$9", "v($9)"}, {"$0", wrongAt(0)}, {"$12", "v($1) n(2)"}, {"$1a", "v($1) w(a)"}, {"$10", "v($1) n(0)"},
		{"@1", wrongAt(0)}, {"@0", wrongAt(0)}, {"@@", wrongAt(0)}, {"@&", wrongAt(0)}, {"%1", "% n(1)"}, {"&1", "& n(1)"}, {"%@_", "% v(@_)"}, {"%%a", "% v(%a)"}, {"&%a", "& v(%a)"}, {"%&a", "% v(&a)"}, {"&&a", "&& w(a)"}, {"& &a", "& v(&a)"}, {"%=a", "%= w(a)"},
		{"$!", wrongAt(0)}, {"$:", wrongAt(0)}, {"$::a", wrongAt(0)}, {"$$", wrongAt(1)}, {"$$ a", wrongAt(1)}, {"$-", wrongAt(0)},
		{"$ a", wrongAt(0)}, {"% a", "% w(a)"}, {"& a", "& w(a)"}, {"@ a", wrongAt(0)}, {"%\n a", "% w(a)"}, {"%#\n a", "% w(a)"},
		{"1%a", "n(1) % w(a)"}, {"1&a", "n(1) & w(a)"}, {"$x%a", "v($x) % w(a)"}, {"$x %$y", "v($x) % v($y)"}, {"$x%%y", "v($x) % v(%y)"}, {"$x&&y", "v($x) && w(y)"}, {"$x& &y", "v($x) & v(&y)"},
	})
}

// P3.1: a variable whose word is too long.
func TestLongVariables(t *testing.T) {
	const thirteen = "abcdefghijklm"
	hold(t, [][2]string{
		{"$" + thirteen, wrongAt(0)}, {"@" + thirteen, wrongAt(0)}, {"%" + thirteen, wrongAt(0)}, {"&" + thirteen, wrongAt(0)},
		{"(%" + thirteen, wrongAt(1)}, {"(&" + thirteen, wrongAt(1)}, {"(%" + thirteen[1:], "( v(%" + thirteen[1:] + ")"}, {"(&" + thirteen[1:], "( v(&" + thirteen[1:] + ")"},
		{"1%" + thirteen, wrongAt(2)}, {"1&" + thirteen, wrongAt(2)}, {"% " + thirteen, wrongAt(2)}, {"& " + thirteen, wrongAt(2)}, {"&&" + thirteen, wrongAt(2)},
		{"$_" + thirteen, wrongAt(0)}, {"@_" + thirteen, wrongAt(0)}, {"%_" + thirteen, wrongAt(1)}, {"&_" + thirteen, wrongAt(1)},
		{"$a::" + thirteen, wrongAt(0)}, {"%a::" + thirteen, wrongAt(0)},
	})
}

// P3.1: the signs of terms.
func TestSigils(t *testing.T) {
	hold(t, [][2]string{
		{"$$a", "$ v($a)"}, {"@$a", "@ v($a)"}, {"%$a", "% v($a)"}, {"&$a", "& v($a)"}, {"$$$a", "$ $ v($a)"}, {"@$$a", "@ $ v($a)"}, {"%$$a", "% $ v($a)"}, {"$$_", "$ v($_)"}, {"$$1", "$ v($1)"}, {"$$@", "$ v($@)"}, {"$$&", "$ v($&)"}, {"$$0", wrongAt(1)},
		{"${a}", "$ {2 w(a) }2"}, {"@{a}", "@ {2 w(a) }2"}, {"%{a}", "% {2 w(a) }2"}, {"&{a}", "& {2 w(a) }2"}, {"$${a}", "$ $ {2 w(a) }2"}, {"@${a}", "@ $ {2 w(a) }2"}, {"%${a}", "% $ {2 w(a) }2"},
		{"$ {", wrongAt(0)}, {"@ {", wrongAt(0)}, {"% {", "% {2"}, {"& {", "& {2"}, {"%\n{a}", "% {2 w(a) }2"}, {"&\t{a}", "& {2 w(a) }2"}, {"% % {a}", "% % {2 w(a) }2"}, {"&& {a}", "&& {3 w(a) }3"}, {"$ $a", wrongAt(0)}, {"@ $a", wrongAt(0)}, {"% $a", "% v($a)"}, {"& $a", "& v($a)"}, {"$@a", "v($@) w(a)"}, {"@@a", wrongAt(0)}, {"%@{a}", "% @ {2 w(a) }2"}, {"$%a", wrongAt(0)}, {"@%a", wrongAt(0)},
		{"1%{a}", "n(1) % {3 w(a) }3"}, {"1% {a}", "n(1) % {3 w(a) }3"}, {"1& {a}", "n(1) & {3 w(a) }3"}, {"1&{a}", "n(1) & {3 w(a) }3"}, {"1%$a", "n(1) % v($a)"}, {"1${a}", wrongAt(1)}, {"1@{a}", wrongAt(1)},
		{"@{$x}{a}", "@ {2 v($x) }2 {2 w(a) }2"}, {"$#a", wrongAt(0)}, {"$[", wrongAt(0)}, {"@(", wrongAt(0)}, {"%(", "% ("},
	})
}

// P3.1: comments, where a token could begin and where none could.
func TestComments(t *testing.T) {
	hold(t, [][2]string{
		{"1 # a ' \" / $ {", "n(1)"}, {"#a\n1", "n(1)"}, {"1#a\n+#b\n2#", "n(1) + n(2)"}, {"$x#a\n{b}", "v($x) {3 w(b) }3"}, {"a#\n::b", "w(a) : : w(b)"}, {"##\n##\n1", "n(1)"}, {"# <<E\n1", "n(1)"}, {"m/a/#i\nb", "pat(a;) w(b)"}, {"q#a#\n(b)", "w(q) ( w(b) )"}, {"$x->#a\n{b}", "v($x) -> {2 w(b) }2"}, {"1<#a\n<E", "n(1) < < w(E)"}, {"%#a\na", "% w(a)"}, {"% #a\n {b}", "% {2 w(b) }2"}, {"1&#a\n{b}", "n(1) & {3 w(b) }3"}, {"-#\n-1", "- - n(1)"},
		{"'#'", "str(#)"}, {`"#"`, "inter(#)"}, {"/#/", "pat(#;)"}, {"q(#)", "str(#)"}, {"qw(a #b\nc)", "words(a #b c)"}, {"s/#/#/", "subst(#;#;)"}, {"tr(#)(#)", "trans(#;#;)"}, {"s(a)#\n(b)", wrongAt(0)}, {"s(a) #b\n(b)", wrongAt(0)}, {"tr(a)#\n(b)", wrongAt(0)}, {"$#\nx", wrongAt(0)}, {"<<E #'\n#\nE", "inter(#\n)"},
	})
}
