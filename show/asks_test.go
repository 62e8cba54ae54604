package show_test

import (
	"testing"

	"motley/api"
	"motley/show"
	"motley/tree"
)

// P5.1: the expression at the end of a path.
func TestExpr(t *testing.T) {
	p := program(t, `$x = 1 + 2 * -3; sub f { if ($a) { return sub { my ($b) = @_; C->new($h{k}, "$b[0]"); }; } } for my $i (1) { @y[2] =~ m/a/; ($z) = (1,); return ({}); }`)
	for _, c := range []struct {
		path []int
		want string
		e    api.Errno
	}{
		{[]int{0, 0}, "$x = (1 + (2 * (- 3)))", api.OK},
		{[]int{0, 0, 0}, "$x", api.OK},
		{[]int{0, 0, 1}, "1 + (2 * (- 3))", api.OK},
		{[]int{0, 0, 1, 1}, "2 * (- 3)", api.OK},
		{[]int{0, 0, 1, 1, 1}, "- 3", api.OK},
		{[]int{0, 0, 1, 1, 1, 0}, "3", api.OK},
		{[]int{1, 0, 0, 0}, "$a", api.OK},
		{[]int{1, 0, 0, 1, 0, 0}, "sub {\n    my ($b) = @_;\n    C->new($h{k}, \"$b[0]\");\n}", api.OK},
		{[]int{1, 0, 0, 1, 0, 0, 0, 0, 0, 0}, "my ($b)", api.OK},
		{[]int{1, 0, 0, 1, 0, 0, 0, 1, 0}, `C->new($h{k}, "$b[0]")`, api.OK},
		{[]int{1, 0, 0, 1, 0, 0, 0, 1, 0, 0}, "'C'", api.OK},
		{[]int{1, 0, 0, 1, 0, 0, 0, 1, 0, 1}, "$h{k}", api.OK},
		{[]int{1, 0, 0, 1, 0, 0, 0, 1, 0, 1, 0}, "%h", api.OK},
		{[]int{1, 0, 0, 1, 0, 0, 0, 1, 0, 1, 1}, "'k'", api.OK},
		{[]int{1, 0, 0, 1, 0, 0, 0, 1, 0, 2, 0}, "$b[0]", api.OK},
		{[]int{2, 0}, "(1,)", api.OK},
		{[]int{2, 0, 0}, "1", api.OK},
		{[]int{2, 1, 0, 0}, "@y[(2)] =~ m/a/", api.OK},
		{[]int{2, 1, 0, 0, 0, 1}, "(2,)", api.OK},
		{[]int{2, 1, 1, 0}, "($z) = (1,)", api.OK},
		{[]int{2, 1, 1, 0, 0}, "($z,)", api.OK},
		{[]int{2, 1, 2, 0}, "{}", api.OK},
		{nil, "", api.ErrNone}, {[]int{}, "", api.ErrNone}, {[]int{3}, "", api.ErrNone}, {[]int{-1}, "", api.ErrNone}, {[]int{0, 1}, "", api.ErrNone}, {[]int{0, 0, 0, 0}, "", api.ErrNone}, {[]int{0, 0, 2}, "", api.ErrNone}, {[]int{0, 0, -1}, "", api.ErrNone},
		{[]int{1, 0, 0, 1, 0, 0, 0, 0, 0, 0, 0, 0, 0, 0, 0}, "", api.ErrNone}, {make([]int, 100), "", api.ErrNone}, {[]int{1 << 62}, "", api.ErrNone},
		{[]int{0}, "", api.ErrType}, {[]int{1}, "", api.ErrType}, {[]int{1, 0}, "", api.ErrType}, {[]int{1, 0, 0}, "", api.ErrType}, {[]int{1, 0, 0, 1}, "", api.ErrType}, {[]int{1, 0, 0, 1, 0}, "", api.ErrType}, {[]int{1, 0, 0, 1, 0, 0, 0}, "", api.ErrType}, {[]int{2}, "", api.ErrType}, {[]int{2, 1}, "", api.ErrType}, {[]int{2, 1, 2}, "", api.ErrType},
	} {
		s, e := show.Expr(p, c.path)
		if s != c.want || e != c.e {
			t.Errorf("Expr at %v: %q %d, not %q %d", c.path, s, e, c.want, c.e)
		}
	}
	if s, e := show.Expr(nil, []int{0}); s != "" || e != api.ErrNone {
		t.Errorf("Expr of no program: %q %d", s, e)
	}
}

// P5.1: what Expr refuses is each kind of statement, and its text is that of the expression as a statement.
func TestExprOfEachKind(t *testing.T) {
	for _, form := range statements {
		x := sample(t, form, -1, nil)
		if s, e := show.Expr([]api.Node{x.node}, []int{0}); s != "" || e != api.ErrType {
			t.Errorf("Expr of a statement %s: %q %d", form, s, e)
		}
	}
	for _, form := range exprs {
		x := sample(t, form, -1, nil)
		within := sample(t, "while («e») «b»", 1, []piece{statementOf(t, x)})
		s, e := show.Expr([]api.Node{within.node}, []int{0, 1, 0, 0})
		if want := textOf([]piece{x}); s+"\n" != want || e != api.OK {
			t.Errorf("Expr: %q %d, not %q", s, e, want)
		}
	}
}

// P5.2: the first line of each statement.
func TestLines(t *testing.T) {
	for s, want := range map[string][]int{
		"":                                    nil,
		"f();":                                {1},
		"f(); g(); h();":                      {1, 2, 3},
		"{ f(); } g();":                       {1, 4},
		"if ($x) { } else { f(); } f(); { }":  {1, 5, 6},
		"my $x = sub { f(); g(); }; f();":     {1, 5},
		"f(sub { }, sub { f(); }); f();":      {1, 5},
		"sub f { { { f(); } } } f();":         {1, 8},
		"m/\n\n/; f(); tr/\n/\n/; 'a\nb'; 1;": {1, 4, 5, 8, 9},
		"$x{'\n'}; \"$x\n\"; s/a/\n/; f();":   {1, 2, 3, 4},
	} {
		l, e := show.Lines(program(t, s))
		if e != api.OK || !equal(l, want) {
			t.Errorf("Lines of %q: %v %d, not %v", s, l, e, want)
		}
	}
}

// P5.2: the statements in which programs are different.
func TestDiffer(t *testing.T) {
	for _, c := range []struct {
		s, t string
		want []int
	}{
		{"", "", nil}, {"f();", "f();", nil}, {"f();", "f(1);", []int{0}}, {"f();", "", []int{0}}, {"", "f(); g();", []int{0, 1}},
		{"f(); g(); h();", "f(); G(); h();", []int{1}}, {"f(); g(); h();", "g(); h();", []int{0, 1, 2}}, {"f(); g();", "f(); g(); h(); f();", []int{2, 3}},
		{"f(); f();", "f(); f() ; ;", nil}, {"{ { f(); } } g();", "{ { f(1); } } g();", []int{0}}, {"L: { }", "M: { }", []int{0}}, {"last L;", "next L;", []int{0}}, {"for (1) { }", "for my $_a (1) { }", []int{0}},
		{"1;", "2;", []int{0}}, {"'a';", "\"a\";", nil}, {"$x{a};", "$x{'a'};", nil}, {"$x;", "@x;", []int{0}}, {"m/a/;", "m/a/i;", []int{0}}, {"tr/a/b/;", "tr/a/c/;", []int{0}}, {"f() if 1;", "if (1) { f(); }", nil}, {"++$x;", "$x++;", []int{0}}, {"my $x;", "my ($x);", []int{0}},
	} {
		for _, l := range [][2]string{{c.s, c.t}, {c.t, c.s}} {
			got, e := show.Differ(program(t, l[0]), program(t, l[1]))
			if e != api.OK || !equal(got, c.want) {
				t.Errorf("Differ of %q and %q: %v %d, not %v", l[0], l[1], got, e, c.want)
			}
		}
	}
}

// P5.1, P5.2: what is given stays as it is, and what is returned is new.
func TestMemory(t *testing.T) {
	p := program(t, "f(); { g(1); } h();")
	q := program(t, "f(); { g(2); } h(); f();")
	before, after := tree.Copy(p), tree.Copy(q)
	path := []int{1, 0, 0}
	lines, _ := show.Lines(p)
	again, _ := show.Lines(p)
	lines[0] = 99
	differ, _ := show.Differ(p, q)
	anew, _ := show.Differ(p, q)
	differ[0] = 99
	if s, e := show.Expr(p, path); s != "g(1)" || e != api.OK || !equal(path, []int{1, 0, 0}) {
		t.Errorf("Expr: %q %d %v", s, e, path)
	}
	if s, e := show.Print(p); s != "f();\n{\n    g(1);\n}\nh();\n" || e != api.OK {
		t.Errorf("Print: %q %d", s, e)
	}
	if !equal(again, []int{1, 2, 5}) || !equal(anew, []int{1, 3}) || !tree.Same(p, before) || !tree.Same(q, after) {
		t.Errorf("%v %v %v %v", again, anew, p, q)
	}
}
