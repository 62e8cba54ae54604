package lex_test

import (
	"slices"
	"strings"
	"testing"

	"motley/api"
	"motley/lex"
)

// sign is a token that is a sign.
func sign(text string, open int) api.Token {
	return api.Token{Kind: api.KSign, Text: text, Open: open}
}

// joinedOf is what Join makes of the tokens of a source.
func joinedOf(t *testing.T, s string) string {
	t.Helper()
	l, _, e := lex.Lex(s)
	if e != api.OK {
		t.Fatalf("Lex of %q: %d", s, e)
	}
	r, e := lex.Join(l)
	if e != api.OK {
		t.Errorf("Join of %q: %d", s, e)
	}
	return r
}

// P3.2: how Join writes tokens.
func TestJoin(t *testing.T) {
	for _, c := range [][2]string{
		{"", ""}, {"#a", ""}, {"a", "a"}, {"a b\n1", "a b 1"}, {"$x=1;", "$x = 1 ;"}, {"f(1,2)", "f ( 1 , 2 )"}, {"$x[0]", "$x [ 0 ]"}, {"a::b", "a::b"}, {"a::1", "a : : 1"}, {"007", "007"}, {"1<<E", "1 < < E"}, {"$x ++ / 2", "$x ++ / 2"}, {"- -1", "- - 1"},
		{"$x{a}", "$x{ a }"}, {"$x {a}", "$x { a }"}, {"$x->{a}", "$x ->{ a }"}, {"$x-> \n{a}{b}", "$x ->{ a }{ b }"}, {"$x[0]{a}", "$x [ 0 ]{ a }"}, {"$x[0] {a}", "$x [ 0 ] { a }"}, {"$x{a} {b}", "$x{ a } { b }"}, {"{}", "{ }"}, {"sub{}", "sub { }"}, {"f({})", "f ( { } )"}, {"L:{}", "L : { }"}, {"if(1){}", "if ( 1 ) { }"},
		{"$$x", "$$x"}, {"@$x", "@$x"}, {"$$$x", "$$$x"}, {"@$$x", "@$$x"}, {"${x}", "${ x }"}, {"@{x}", "@{ x }"}, {"$${x}", "$${ x }"}, {"@{$x}", "@{ $x }"},
		{"%$x", "%$x"}, {"&$x", "&$x"}, {"%$$x", "%$$x"}, {"&$$x", "&$$x"}, {"% $x", "%$x"}, {"& \n$x", "&$x"}, {"%{x}", "%{ x }"}, {"&{x}", "&{ x }"}, {"% {x}", "%{ x }"}, {"& {x}", "&{ x }"}, {"%\n{x}{y}", "%{ x }{ y }"}, {"& # a\n {x} {y}", "&{ x } { y }"}, {"%% {x}", "% %{ x }"}, {"%${x}", "%${ x }"}, {"%@x", "% @x"}, {"&@{x}", "& @{ x }"}, {"%%x", "% %x"}, {"% x", "% x"}, {"& &x", "& &x"}, {"& & $x", "& &$x"}, {"%'a'", "% 'a'"}, {"% q($)", "% '$'"}, {"& q($x)", "& '$x'"}, {"% qq($x)", `% "$x"`}, {"%_", "%_"},
		{"1%$x", "1 % $x"}, {"1 &$x", "1 & $x"}, {"1%$$x", "1 % $$x"}, {"1%{x}", "1 % { x }"}, {"1 & {x}", "1 & { x }"}, {"$x%%$y", "$x % %$y"}, {"$x{a}%$y", "$x{ a } % $y"}, {"%$x%$y", "%$x % $y"}, {"{}%$x", "{ } %$x"}, {"x%$x", "x %$x"}, {"f%$x", "f % $x"}, {"++%$x", "++ %$x"}, {"1++%$x", "1 ++ % $x"},
		{"'a'", "'a'"}, {"''", "''"}, {`'\''`, `'\''`}, {`'\\'`, `'\\'`}, {`'\n'`, `'\\n'`}, {"q(a'b)", `'a\'b'`}, {`q(a"b)`, `'a"b'`}, {"'a\nb'", "'a\nb'"}, {"<<'E'\n\\'\nE", "'\\\\\\'\n'"},
		{`"a"`, `"a"`}, {`""`, `""`}, {`"\""`, `"\""`}, {`qq(")`, `"\""`}, {`"\\\n"`, `"\\\n"`}, {"<<E\n\"\\\nE", "\"\\\"\\\n\""}, {`"$x{a}"`, `"$x{a}"`},
		{"qw(a b)", "qw(a b)"}, {"qw()", "qw()"}, {"qw[ a\tb ]", "qw(a b)"}, {"qw(a(b)c)", `qw(a\(b\)c)`}, {`qw(a\\b)`, `qw(a\\b)`}, {`qw(\n)`, `qw(\\n)`}, {"qw/(/", `qw(\()`}, {"qw'/ '", "qw(/)"},
		{"/a/", "m/a/"}, {"//", "m//"}, {"/a/i", "m/a/i"}, {"m!a!imsxg", "m/a/imsxg"}, {"m(/)", `m/\//`}, {`/\//`, `m/\//`}, {`/\\/`, `m/\\/`}, {`m(\\/)`, `m/\\\//`}, {`m!\!!`, `m/\!/`}, {`/\d'"/`, `m/\d'"/`}, {"/a/ i", "m/a/ i"}, {"/a/gi", "m/a/g i"},
		{"s/a/b/", "s/a/b/"}, {"s(a){b}g", "s/a/b/g"}, {"s(/)(/)", `s/\//\//`}, {`s(a)(")`, `s/a/\"/`}, {`s(\\/)(\\/)`, `s/\\\//\\\//`}, {`s///`, "s///"}, {`s(\))(\))ix`, `s/\)/)/ix`}, {`s(a)($x\n)`, `s/a/$x\n/`},
		{"tr/a/b/", "tr/a/b/"}, {"tr(a)(b)cdr", "tr/a/b/cdr"}, {"tr(/)(/)", `tr/\//\//`}, {`tr(\\)(\\)`, `tr/\\/\\/`}, {`tr(\n)(\-)`, `tr/\\n/\\-/`}, {"tr///", "tr///"},
		{"<<E . 1\na\nE\n", "\"a\n\" . 1"}, {"<<E . 'b\na\nE\nc'", "\"a\n\" . 'b\nc'"},
	} {
		if r := joinedOf(t, c[0]); r != c[1] {
			t.Errorf("Join of %q: %q, not %q", c[0], r, c[1])
		}
	}
}

// P3.2 (Consequence.): Join of Lex gives the Same tokens.
func TestJoinOfLex(t *testing.T) {
	for _, s := range []string{
		"if ($x) { print(\"a\" . 1 + 2); }", "my @a = (3, 1, 2); print(join(\",\", sort { $a <=> $b; } (@a)));", "my $n = () = f();", "sub f { return wantarray() ? \"many\" : \"one\"; } my ($x) = f(); my $y = f();",
		"our $g = 1; sub show { print($g); } { local $g = 2; show(); } show();", "eval { die(\"no\"); }; print($@);", "my @c; for my $i (1 .. 3) { push(@c, sub { return $i; }); } print($c[1]->());", "if (\"2026-11-17\" =~ m/(\\d+)-(\\d+)/) { print(\"$2/$1\"); }",
		"$x->{a}{b}[0]{c}->[1] = {a => {}, b => [1]}; L: while (1) { last L if $y % 2 // 3 / 4; }", "%{$x} = %$y; &$f(1); &{$f}(2); @{$x}{qw(a b)} = @$y{'c', \"d\"};", "$x =~ s{a(b)}{$1 \"}gi; $x !~ /\\//x; $y =~ tr(a-z)(A-Z)r;",
	} {
		l, _, e := lex.Lex(s)
		if e != api.OK {
			t.Fatalf("Lex of %q: %d", s, e)
		}
		k, _, e := lex.Lex(joinedOf(t, s))
		if e != api.OK || !lex.Same(k, l) {
			t.Errorf("Lex of Join of %q: %s %d", s, tell(k), e)
		}
	}
}

// P3.2: tokens that no source gives are refused.
func TestJoinIsRefused(t *testing.T) {
	one := api.Token{Kind: api.KNum, Text: "1"}
	for name, c := range map[string]struct {
		l    []api.Token
		want api.Errno
	}{
		"too long":                 {[]api.Token{{Kind: api.KStr, Text: long("a", api.MaxSource)}}, api.ErrLarge},
		"too long by its blanks":   {slices.Repeat([]api.Token{sign(";", 0)}, api.MaxSource/2+1), api.ErrLarge},
		"too many":                 {slices.Repeat([]api.Token{sign(";", 0)}, api.MaxTokens+1), api.ErrLarge},
		"too many and wrong":       {append(slices.Repeat([]api.Token{sign(";", 0)}, api.MaxTokens+1), sign("$", 0)), api.ErrSyntax},
		"too long a word":          {[]api.Token{{Kind: api.KWord, Text: "abcdefghijklm"}}, api.ErrSyntax},
		"a byte of no source":      {[]api.Token{{Kind: api.KStr, Text: "a\xff"}}, api.ErrSyntax},
		"an open quote":            {[]api.Token{{Kind: api.KInter, Text: `\`}}, api.ErrSyntax},
		"a variable behind a term": {[]api.Token{one, {Kind: api.KVar, Text: "$x"}}, api.ErrSyntax},
		"no sign":                  {[]api.Token{sign("~", 0)}, api.ErrSyntax},
		"an open heredoc":          {[]api.Token{{Kind: api.KWord, Text: "<<E"}}, api.ErrSyntax},
		"no kind below":            {[]api.Token{{Kind: -1, Text: "a"}}, api.ErrArg},
		"no kind above":            {[]api.Token{{Kind: api.KTrans + 1, Text: "a"}}, api.ErrArg},
		"a word as a number":       {[]api.Token{{Kind: api.KNum, Text: "a"}}, api.ErrArg},
		"a number as a word":       {[]api.Token{{Kind: api.KWord, Text: "1"}}, api.ErrArg},
		"two in one":               {[]api.Token{{Kind: api.KWord, Text: "a b"}}, api.ErrArg},
		"an empty word":            {[]api.Token{{Kind: api.KWord}}, api.ErrArg},
		"a comment":                {[]api.Token{sign("#", 0)}, api.ErrArg},
		"two signs":                {[]api.Token{sign("<<", 0)}, api.ErrArg},
		"More of a word":           {[]api.Token{{Kind: api.KWord, Text: "a", More: "i"}}, api.ErrArg},
		"Repl of a text":           {[]api.Token{{Kind: api.KStr, Text: "a", Repl: "i"}}, api.ErrArg},
		"Open of a sign":           {[]api.Token{sign(";", 1)}, api.ErrArg},
		"Open of a number":         {[]api.Token{{Kind: api.KNum, Text: "1", Open: 2}}, api.ErrArg},
		"Open 0":                   {[]api.Token{sign("{", 0)}, api.ErrArg},
		"Open 3 of a block":        {[]api.Token{sign("{", 3)}, api.ErrArg},
		"Open 2 of a block":        {[]api.Token{sign("{", 2)}, api.ErrArg},
		"Open 1 of a hash":         {[]api.Token{one, sign("{", 1)}, api.ErrArg},
		"Open 2 of a hash":         {[]api.Token{one, sign("{", 2)}, api.ErrArg},
		"Open 3 of a `}`":          {[]api.Token{sign("{", 1), sign("}", 3)}, api.ErrArg},
		"Open 4":                   {[]api.Token{sign("{", 4)}, api.ErrArg},
		"Open 3 behind a `%`":      {[]api.Token{sign("%", 0), sign("{", 3)}, api.ErrArg},
		"Open 3 behind a `&`":      {[]api.Token{one, sign("+", 0), sign("&", 0), sign("{", 3)}, api.ErrArg},
		"Open 1 behind a `&`":      {[]api.Token{sign("&", 0), sign("{", 1)}, api.ErrArg},
		"Open 2 behind `1 %`":      {[]api.Token{one, sign("%", 0), sign("{", 2)}, api.ErrArg},
		"two blanks in words":      {[]api.Token{{Kind: api.KWords, Text: "a  b"}}, api.ErrArg},
		"a blank before words":     {[]api.Token{{Kind: api.KWords, Text: " a"}}, api.ErrArg},
		"a line in words":          {[]api.Token{{Kind: api.KWords, Text: "a\nb"}}, api.ErrArg},
		"flags out of order":       {[]api.Token{{Kind: api.KPat, Text: "a", More: "gi"}}, api.ErrArg},
		"no flags":                 {[]api.Token{{Kind: api.KPat, Text: "a", More: "q"}}, api.ErrArg},
		"a half of a pattern":      {[]api.Token{{Kind: api.KPat, Text: `\/`}}, api.ErrArg},
		"a bare `\"`":              {[]api.Token{{Kind: api.KInter, Text: `"."`}}, api.ErrArg},
		"a bare `\"` in Repl":      {[]api.Token{{Kind: api.KSubst, Repl: `"`}}, api.ErrArg},
		"a half of a Repl":         {[]api.Token{{Kind: api.KSubst, Repl: `\`}}, api.ErrSyntax},
		"`%` without a term":       {[]api.Token{sign("%", 0), {Kind: api.KWord, Text: "$x"}}, api.ErrArg},
		"`-` and `-1`":             {[]api.Token{sign("-", 0), {Kind: api.KNum, Text: "-1"}}, api.ErrArg},
	} {
		if s, e := lex.Join(c.l); s != "" || e != c.want {
			t.Errorf("Join of %s: %q %d, not %d", name, s, e, c.want)
		}
	}
	// At does not matter.
	if s, e := lex.Join([]api.Token{{Kind: api.KNum, At: -5, Text: "1"}, {Kind: api.KWord, At: 99, Text: "a"}}); s != "1 a" || e != api.OK {
		t.Errorf("Join: %q %d", s, e)
	}
	if s, e := lex.Join(slices.Repeat([]api.Token{sign(";", 0)}, api.MaxTokens)); len(s) != 2*api.MaxTokens-1 || e != api.OK {
		t.Errorf("Join of MaxTokens: %d %d", len(s), e)
	}
	if s, e := lex.Join([]api.Token{{Kind: api.KStr, Text: long("a", api.MaxSource-2)}}); len(s) != api.MaxSource || e != api.OK {
		t.Errorf("Join of MaxSource: %d %d", len(s), e)
	}
}

// P3.2: no blank stands behind a `$` or `@` of a term; behind one where an operator is expected one stands, and makes it a wrong byte.
func TestJoinBehindSigil(t *testing.T) {
	word, subscript, x := api.Token{Kind: api.KWord, Text: "x"}, sign("{", 2), api.Token{Kind: api.KVar, Text: "$x"}
	of := func(kind int, text string) api.Token { return api.Token{Kind: kind, Text: text} }
	for name, before := range map[string][]api.Token{
		"an empty word": {of(api.KWord, "")}, "a word": {of(api.KWord, "a")}, "q and a pattern": {of(api.KWord, "q"), of(api.KPat, "")},
		"a number": {of(api.KNum, "1")}, "a number of no digits": {of(api.KNum, ";")}, "a variable": {x}, "a text": {of(api.KStr, "")}, "a text with interpolation": {of(api.KInter, "")},
		"words": {of(api.KWords, "")}, "a pattern": {of(api.KPat, "")}, "a replacement": {of(api.KSubst, "")}, "a transliteration": {of(api.KTrans, "")},
		"`)`": {sign(")", 0)}, "`]`": {sign("]", 0)}, "a `}` of a subscript": {x, sign("{", 2), sign("}", 2)}, "a `}` with Open 2": {sign("}", 2)}, "a `}` with Open 3": {sign("}", 3)}, "`1 ++`": {of(api.KNum, "1"), sign("++", 0)}, "`) --`": {sign(")", 0), sign("--", 0)},
	} {
		for _, sigil := range []string{"$", "@"} {
			for _, behind := range []api.Token{word, x, sign("{", 1), of(api.KWord, "{"), sign("$", 0)} {
				if s, e := lex.Join(slices.Concat(before, []api.Token{sign(sigil, 0), behind})); s != "" || e != api.ErrSyntax {
					t.Errorf("Join of %s, a sign %s and %q: %q %d", name, sigil, behind.Text, s, e)
				}
			}
		}
	}
	for name, before := range map[string][]api.Token{
		"nothing": nil, "return": {of(api.KWord, "return")}, "`+`": {word, sign("+", 0)}, "`;`": {sign(";", 0)}, "`(`": {sign("(", 0)}, "a `}` of a block": {sign("}", 1)}, "`++`": {sign("++", 0)},
	} {
		for _, sigil := range []string{"$", "@"} {
			behind := slices.Concat(before, []api.Token{sign(sigil, 0)})
			if s, e := lex.Join(append(behind[:len(behind):len(behind)], word)); s != "" || e != api.ErrArg {
				t.Errorf("Join of %s, a sign %s and x: %q %d", name, sigil, s, e)
			}
			if s, e := lex.Join(append(behind[:len(behind):len(behind)], x)); !strings.HasSuffix(s, sigil+"$x") || e != api.OK {
				t.Errorf("Join of %s, a sign %s and $x: %q %d", name, sigil, s, e)
			}
			if s, e := lex.Join(append(behind[:len(behind):len(behind)], subscript, word)); !strings.HasSuffix(s, sigil+"{ x") || e != api.OK {
				t.Errorf("Join of %s, a sign %s and a subscript: %q %d", name, sigil, s, e)
			}
		}
	}
	// A subscript stands without a blank before it, whatever the sign is; and behind a token of no kind a term is expected.
	for name, c := range map[string]struct {
		l    []api.Token
		want api.Errno
	}{
		"a word before `@{`":    {[]api.Token{of(api.KWord, "q"), of(api.KPat, ""), sign("@", 0), subscript}, api.ErrArg},
		"no kind before a sign": {[]api.Token{of(99, ";"), sign("@", 0), word}, api.ErrArg},
	} {
		if s, e := lex.Join(c.l); s != "" || e != c.want {
			t.Errorf("Join of %s: %q %d, not %d", name, s, e, c.want)
		}
	}
}

// P3.2: no blank stands behind a `%` or `&` where a term is expected and a `$` follows, in a token of any kind that is written as its Text; the length of the source tells.
func TestJoinBeforeDollar(t *testing.T) {
	padded := func(kind int, text string, length int) api.Token {
		return api.Token{Kind: kind, Text: text + strings.Repeat(" ", length-len(text))}
	}
	for _, mark := range []string{"%", "&"} {
		for name, c := range map[string]struct {
			before  []api.Token
			kind    int
			text    string
			written int // how many bytes are written beside the Text of the last token
			tight   bool
		}{
			"a word":                       {nil, api.KWord, "$a", 0, true},
			"a number":                     {nil, api.KNum, "$a", 0, true},
			"a variable":                   {nil, api.KVar, "$a", 0, true},
			"a sign":                       {nil, api.KSign, "$$a", 0, true},
			"no kind below":                {nil, -1, "$a", 0, true},
			"no kind above":                {nil, api.KTrans + 1, "$a", 0, true},
			"a word behind `;`":            {[]api.Token{sign(";", 0)}, api.KWord, "$a", 2, true},
			"a word without `$`":           {nil, api.KWord, "a", 0, false},
			"a word with `$` in it":        {nil, api.KWord, "a $a", 0, false},
			"`@`":                          {nil, api.KVar, "@a", 0, false},
			"a text":                       {nil, api.KStr, "$a", 2, false},
			"a text with interpolation":    {nil, api.KInter, "$a", 2, false},
			"a pattern":                    {nil, api.KPat, "$a", 3, false},
			"a word behind a number":       {[]api.Token{{Kind: api.KNum, Text: "1"}}, api.KWord, "$a", 2, false},
			"a word behind a word":         {[]api.Token{{Kind: api.KWord, Text: "a"}}, api.KWord, "$a", 2, false},
			"a number behind `)`":          {[]api.Token{sign(")", 0)}, api.KNum, "$a", 2, false},
			"a variable behind a variable": {[]api.Token{{Kind: api.KVar, Text: "$x"}}, api.KVar, "$a", 3, false},
		} {
			longest := api.MaxSource - 1 - c.written
			if !c.tight {
				longest--
			}
			for more, large := range []bool{false, true} {
				s, e := lex.Join(slices.Concat(c.before, []api.Token{sign(mark, 0), padded(c.kind, c.text, longest+more)}))
				if (e == api.ErrLarge) != large || e != api.OK && s != "" {
					t.Errorf("Join of a sign %s before %s, of %d bytes too many: %d bytes, %d", mark, name, more, len(s), e)
				}
			}
		}
		if s, e := lex.Join([]api.Token{sign(mark, 0), {Kind: api.KWord, Text: "$a"}}); s != "" || e != api.ErrArg {
			t.Errorf("Join of a sign %s before a word $a: %q %d", mark, s, e)
		}
	}
}

// P3.2: Same compares all but At.
func TestSame(t *testing.T) {
	x := api.Token{Kind: api.KSubst, At: 3, Text: "a", Repl: "b", More: "g", Open: 1}
	l := []api.Token{sign(";", 0), x, sign("}", 1)}
	if !lex.Same(nil, nil) || !lex.Same(nil, []api.Token{}) || !lex.Same(l, l) || lex.Same(l, l[1:]) || lex.Same(l[:2], l) || lex.Same(nil, l) || lex.Same(l, nil) {
		t.Error("Same of lists of different lengths")
	}
	for name, c := range map[string]struct {
		change func(*api.Token)
		want   bool
	}{
		"At":   {func(t *api.Token) { t.At = 7 }, true},
		"Kind": {func(t *api.Token) { t.Kind = api.KTrans }, false},
		"Text": {func(t *api.Token) { t.Text = "" }, false},
		"Repl": {func(t *api.Token) { t.Repl = "a" }, false},
		"More": {func(t *api.Token) { t.More = "gg" }, false},
		"Open": {func(t *api.Token) { t.Open = 2 }, false},
	} {
		for i := range l {
			k := slices.Clone(l)
			k[i] = x
			m := slices.Clone(k)
			c.change(&m[i])
			if lex.Same(k, m) != c.want || lex.Same(m, k) != c.want {
				t.Errorf("Same with another %s at %d", name, i)
			}
		}
	}
}

// P3.2: Quote.
func TestQuote(t *testing.T) {
	for s, want := range map[string]string{
		"": "''", "a": "'a'", "'": `'\''`, `\`: `'\\'`, `\'`: `'\\\''`, `a"b`: `'a"b'`, "a\n\tb": "'a\n\tb'", "~ ": "'~ '", `\n`: `'\\n'`, "#/(": "'#/('",
		long("'", api.MaxText): "'" + long(`\'`, api.MaxText) + "'",
		long("a", api.MaxText): "'" + long("a", api.MaxText) + "'",
	} {
		if r, e := lex.Quote(s); r != want || e != api.OK {
			t.Errorf("Quote of %.20q: %.20q %d", s, r, e)
		}
	}
	for s, want := range map[string]api.Errno{
		long("a", api.MaxText+1): api.ErrLarge, long("\xff", api.MaxText+1): api.ErrLarge, "\xff" + long("a", api.MaxText-1): api.ErrArg, "a\x00": api.ErrArg, "\x7f": api.ErrArg, "\r": api.ErrArg, "é": api.ErrArg, "\x1f": api.ErrArg, "\v": api.ErrArg,
	} {
		if r, e := lex.Quote(s); r != "" || e != want {
			t.Errorf("Quote of %.20q: %.20q %d", s, r, e)
		}
	}
}

// P3.2: what Quote returns is read as what it was.
func TestQuoteIsRead(t *testing.T) {
	var all strings.Builder
	for c := range 256 {
		s := string([]byte{byte(c)})
		r, e := lex.Quote("a" + s + s)
		if is := c == 9 || c == 10 || c >= 32 && c <= 126; is != (e == api.OK) {
			t.Errorf("Quote of %q: %q %d", s, r, e)
		} else if is {
			all.WriteString(s)
		}
		if e != api.OK {
			continue
		}
		l, _, e := lex.Lex(r)
		if e != api.OK || !slices.Equal(l, []api.Token{{Kind: api.KStr, Text: "a" + s + s}}) {
			t.Errorf("Lex of Quote of %q: %v %d", s, l, e)
		}
	}
	r, _ := lex.Quote(all.String())
	if l, _, e := lex.Lex(r); e != api.OK || !slices.Equal(l, []api.Token{{Kind: api.KStr, Text: all.String()}}) {
		t.Errorf("Lex of Quote of all: %v %d", l, e)
	}
}
