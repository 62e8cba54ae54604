package show_test

import (
	"testing"

	"motley/api"
	"motley/show"
)

// holdFormatted holds Format of sources, and Print of their programs, against what should be.
func holdFormatted(t *testing.T, cases [][2]string) {
	t.Helper()
	for _, c := range cases {
		if got := formatted(c[0]); got != c[1] {
			t.Errorf("%q is printed\n%snot\n%s", c[0], got, c[1])
			continue
		}
		p := program(t, c[0])
		if s, e := show.Print(p); s != c[1] || e != api.OK {
			t.Errorf("Print of %q: %d\n%s", c[0], e, s)
		}
		holdRead(t, p, c[1])
		if is, e := show.IsFormatted(c[0]); is != (c[0] == c[1]) || e != api.OK {
			t.Errorf("IsFormatted of %q: %t %d", c[0], is, e)
		}
	}
}

// P5.1: the examples of the chapter.
func TestExamples(t *testing.T) {
	holdFormatted(t, [][2]string{
		{"$x=1+2*3;", "$x = (1 + (2 * 3));\n"},
		{`print("a$b");`, "print(\"a${b}\");\n"},
		{"unless ($x) { f(); }", "if (!$x) {\n    f();\n}\n"},
	})
	if got := formatted(`print "a$b";`); got != "error 2" {
		t.Errorf("a function without parentheses: %s", got)
	}
}

// P5.1: each kind of statement, with and without its optional parts.
func TestStatements(t *testing.T) {
	holdFormatted(t, [][2]string{
		{"", ""},
		{" ;; # a comment\n", ""},
		{"f();g();", "f();\ng();\n"},
		{"if($x){f();}", lines("if ($x) {", "    f();", "}")},
		{"if($x){}else{g();}", lines("if ($x) {", "} else {", "    g();", "}")},
		{"if($x){}elsif($y){}", lines("if ($x) {", "} elsif ($y) {", "}")},
		{"if($x){f();}elsif($y){}elsif(1){g();}else{h();}", lines("if ($x) {", "    f();", "} elsif ($y) {", "} elsif (1) {", "    g();", "} else {", "    h();", "}")},
		{"f() if $x;", lines("if ($x) {", "    f();", "}")},
		{"f() unless $x;", lines("if (!$x) {", "    f();", "}")},
		{"while($x){}", lines("while ($x) {", "}")},
		{"until($x){f();}", lines("while (!$x) {", "    f();", "}")},
		{"L:while($x){last L;}", lines("L: while ($x) {", "    last L;", "}")},
		{"for($x){}", lines("for ($x) {", "}")},
		{"for($x,@y,){}", lines("for ($x, @y) {", "}")},
		{"for(){f();}", lines("for () {", "    f();", "}")},
		{"for(()){}", lines("for (()) {", "}")},
		{"for(qw(a)){}", lines("for (('a',)) {", "}")},
		{"for my$x(1..3){}", lines("for my $x (1 .. 3) {", "}")},
		{"A::b:for my $_a(){}", lines("A::b: for my $_a () {", "}")},
		{"L:for(1){next L;}", lines("L: for (1) {", "    next L;", "}")},
		{"{}", lines("{", "}")},
		{"{f();}", lines("{", "    f();", "}")},
		{"L:{last;}", lines("L: {", "    last;", "}")},
		{"sub f{}sub g{return;}", lines("sub f {", "}", "sub g {", "    return;", "}")},
		{"package A::b;", lines("package A::b;")},
		{"return;", lines("return;")},
		{"return$x;", lines("return $x;")},
		{"return(1,2);", lines("return (1, 2);")},
		{"last;next;last L;next L;", lines("last;", "next;", "last L;", "next L;")},
		{"BEGIN{f();}END{}", lines("BEGIN {", "    f();", "}", "END {", "}")},
		{"sub f{for my $x(1){if($x){{return 1;}}}}", lines("sub f {", "    for my $x (1) {", "        if ($x) {", "            {", "                return 1;", "            }", "        }", "    }", "}")},
	})
}

// P5.1: sources that are not read, and ones that are just small enough.
func TestWhatIsNotRead(t *testing.T) {
	for _, c := range []struct {
		s string
		e api.Errno
	}{
		{"f(", api.ErrSyntax}, {"1", api.ErrSyntax}, {"\x01", api.ErrSyntax}, {"'a", api.ErrSyntax}, {"@x += 1;", api.ErrSyntax},
		{long(" ", api.MaxSource+1), api.ErrLarge}, {long(";", api.MaxTokens+1), api.ErrLarge}, {long("1;", 201), api.ErrLarge}, {long("!", 15) + "1;", api.ErrLarge},
		{long("1;", 200), api.OK}, {long("!", 14) + "1;", api.OK}, {long(" ", api.MaxSource), api.OK}, {long(";", api.MaxTokens), api.OK},
	} {
		s, e := show.Format(c.s)
		if e != c.e || e != api.OK && s != "" {
			t.Errorf("Format of %.20q: %q %d, not %d", c.s, s, e, c.e)
		}
		if is, e := show.IsFormatted(c.s); is || e != c.e {
			t.Errorf("IsFormatted of %.20q: %t %d, not %d", c.s, is, e, c.e)
		}
	}
}

// P5.1: whether a source is what is printed of its program.
func TestIsFormatted(t *testing.T) {
	for s, want := range map[string]bool{
		"": true, "\n": false, "f();": false, "f();\n": true, " f();\n": false, "f();\n\n": false, "f(); g();\n": false, "f();\ng();\n": true,
		"f();# c\n": false, "$x = 1 + 2;\n": false, "$x = (1 + 2);\n": true, "1 + 2;\n": true, "(1 + 2);\n": false, "if ($x) {\n}\n": true, "if ($x) {\n\n}\n": false,
		"{\n  f();\n}\n": false, "{\n    f();\n}\n": true, "\"a\";\n": false, "'a';\n": true,
	} {
		if is, e := show.IsFormatted(s); is != want || e != api.OK {
			t.Errorf("IsFormatted of %q: %t %d, not %t", s, is, e, want)
		}
	}
}
