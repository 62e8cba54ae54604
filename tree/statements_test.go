package tree_test

import (
	"strings"
	"testing"

	"motley/api"
	"motley/tree"
)

// P4.1: the examples of the chapter, and those of the document that are sources.
func TestExamples(t *testing.T) {
	hold(t, toldExpr, [][2]string{
		{"$x[1]", "(Index @x 1)"},
		{"$x->[1][2]", "(Index (Deref @ (Index (Deref @ $x) 1)) 2)"},
	})
	hold(t, told, [][2]string{
		{"my ($a, @b) = @_;", "(Expr (Assign (My my N=1 $a @b) @_))"},
		{`print("a$b[0]c");`, "(Expr (Func print (Join 'a' (Index @b 0) 'c')))"},
		{`print("a" . 1 + 2);`, "(Expr (Func print (Bin + (Bin . 'a' 1) 2)))"},
		{`my @a = (3, 1, 2); print(join(",", sort { $a <=> $b; } (@a)));`,
			"(Expr (Assign (My my @a) (List 3 1 2))) (Expr (Func print (Func join ',' (Each sort (Block (Expr (Bin <=> $a $b))) (List @a)))))"},
		{"my $n = () = f();", "(Expr (Assign (My my $n) (Assign (List) (Call f))))"},
		{`sub f { return wantarray() ? "many" : "one"; } my ($x) = f(); my $y = f();`,
			"(Define f (Block (Return (Cond (Func wantarray) 'many' 'one')))) (Expr (Assign (My my N=1 $x) (Call f))) (Expr (Assign (My my $y) (Call f)))"},
		{"our $g = 1; sub show { print($g); } { local $g = 2; show(); } show();",
			"(Expr (Assign (My our $g) 1)) (Define show (Block (Expr (Func print $g)))) (Block (Expr (Assign (My local $g) 2)) (Expr (Call show))) (Expr (Call show))"},
		{`eval { die("no"); }; print($@);`, "(Expr (Eval (Block (Expr (Func die 'no'))))) (Expr (Func print $@))"},
		{"my @c; for my $i (1 .. 3) { push(@c, sub { return $i; }); } print($c[1]->());",
			"(Expr (My my @c)) (For i N=1 (List (Bin .. 1 3)) (Block (Expr (Func push @c (Sub (Block (Return $i))))))) (Expr (Func print (CallRef (Index @c 1))))"},
		{`if ("2026-11-17" =~ m/(\d+)-(\d+)/) { print("$2/$1"); }`,
			`(If (Match (\d+)-(\d+) '2026-11-17') (Block (Expr (Func print (Join $2 '/' $1)))))`},
		{`print 1;`, misfit(1)},
	})
}

// P4.1: Parse returns the number of tokens, and nodes without anything else.
func TestResults(t *testing.T) {
	p, n, e := tree.Parse("f(1, 'a'); # c\nL: while ($x) { }")
	want := []api.Node{
		{Op: api.NExpr, L: []api.Node{{Op: api.NCall, S: "f", L: []api.Node{{Op: api.NNum, N: 1}, {Op: api.NStr, S: "a"}}}}},
		{Op: api.NWhile, T: "L", L: []api.Node{{Op: api.NScalar, S: "x"}, {Op: api.NBlock}}},
	}
	if !tree.Same(p, want) || n != 15 || e != api.OK {
		t.Errorf("Parse: %s %d %d", tellAll(p), n, e)
	}
	x, n, e := tree.ParseExpr("1 + $x ")
	if !tree.Same([]api.Node{x}, []api.Node{{Op: api.NBin, S: "+", L: []api.Node{{Op: api.NNum, N: 1}, {Op: api.NScalar, S: "x"}}}}) || n != 3 || e != api.OK {
		t.Errorf("ParseExpr: %s %d %d", tell(x), n, e)
	}
	for _, s := range []string{"", " \n", "# c"} {
		if p, n, e := tree.Parse(s); len(p) != 0 || n != 0 || e != api.OK {
			t.Errorf("Parse of %q: %s %d %d", s, tellAll(p), n, e)
		}
		if x, n, e := tree.ParseExpr(s); tell(x) != "()" || n != 0 || e != api.ErrSyntax {
			t.Errorf("ParseExpr of %q: %s %d %d", s, tell(x), n, e)
		}
	}
	if p, n, e := tree.Parse(";;;"); len(p) != 0 || n != 3 || e != api.OK {
		t.Errorf("Parse of ;;;: %s %d %d", tellAll(p), n, e)
	}
}

// P4.1: each rule of statements, with its parts and without.
func TestStatements(t *testing.T) {
	hold(t, told, [][2]string{
		{"1;", "(Expr 1)"}, {"1;2;", "(Expr 1) (Expr 2)"}, {";1;;2;;", "(Expr 1) (Expr 2)"},
		{"{}", "(Block)"}, {"{;}", "(Block)"}, {"{1;}", "(Block (Expr 1))"}, {"{1;;2;}", "(Block (Expr 1) (Expr 2))"}, {"{{}{}}", "(Block (Block) (Block))"},
		{"L:{}", "(Block T=L)"}, {"L: {1;}", "(Block T=L (Expr 1))"}, {"A::b: {}", "(Block T=A::b)"}, {"{L: {}}", "(Block (Block T=L))"}, {"1;L: {}", "(Expr 1) (Block T=L)"}, {"{} L: {}", "(Block) (Block T=L)"}, {"_: {}", "(Block T=_)"},
		{"sub f {}", "(Define f (Block))"}, {"sub A::f {1;}", "(Define A::f (Block (Expr 1)))"}, {"sub f { sub g {} }", "(Define f (Block (Define g (Block))))"},
		{"sub {};", "(Expr (Sub (Block)))"}, {"sub {1;}->(2);", "(Expr (CallRef (Sub (Block (Expr 1))) 2))"},
		{"package A;", "(Package A)"}, {"package A::b; 1;", "(Package A::b) (Expr 1)"}, {"{ package A; }", "(Block (Package A))"},
		{"if (1) {}", "(If 1 (Block))"}, {"if (1) {2;}", "(If 1 (Block (Expr 2)))"}, {"if (1) {} else {2;}", "(If 1 (Block) (Block (Expr 2)))"},
		{"if (1) {} elsif (2) {}", "(If 1 (Block) 2 (Block))"}, {"if (1) {} elsif (2) {} elsif (3) {4;} else {5;}", "(If 1 (Block) 2 (Block) 3 (Block (Expr 4)) (Block (Expr 5)))"},
		{"unless (1) {}", "(If (Not 1) (Block))"}, {"unless (1) {} elsif (2) {} else {}", "(If (Not 1) (Block) 2 (Block) (Block))"},
		{"if ($x or $y) {}", "(If (Logic || $x $y) (Block))"}, {"if (1) {} if (2) {}", "(If 1 (Block)) (If 2 (Block))"},
		{"while (1) {}", "(While 1 (Block))"}, {"while (1) {2;}", "(While 1 (Block (Expr 2)))"}, {"L: while (1) {}", "(While T=L 1 (Block))"}, {"while ($x = f()) {}", "(While (Assign $x (Call f)) (Block))"},
		{"until (1) {}", "(While (Not 1) (Block))"}, {"L: until (1) {}", "(While T=L (Not 1) (Block))"},
		{"for () {}", "(For _ (List) (Block))"}, {"for (1) {2;}", "(For _ (List 1) (Block (Expr 2)))"}, {"for (1, 2) {}", "(For _ (List 1 2) (Block))"}, {"for (1,) {}", "(For _ (List 1) (Block))"}, {"for ((1, 2)) {}", "(For _ (List (List 1 2)) (Block))"},
		{"for my $x (1) {}", "(For x N=1 (List 1) (Block))"}, {"for my $x () {}", "(For x N=1 (List) (Block))"}, {"for my $my (@x) {}", "(For my N=1 (List @x) (Block))"}, {"L: for (1) {}", "(For _ T=L (List 1) (Block))"}, {"L: for my $x (1) {}", "(For x T=L N=1 (List 1) (Block))"},
		{"return;", "(Return)"}, {"return 1;", "(Return 1)"}, {"return 1 or 2;", "(Return (Logic || 1 2))"}, {"return ();", "(Return (List))"}, {"return (1, 2);", "(Return (List 1 2))"}, {"return ({});", "(Return (NewHash))"},
		{"last;", "(Leave last)"}, {"next;", "(Leave next)"}, {"last L;", "(Leave last T=L)"}, {"next A::b;", "(Leave next T=A::b)"},
		{"BEGIN {}", "(Phase BEGIN (Block))"}, {"END {1;}", "(Phase END (Block (Expr 1)))"},
		{"1 if 2;", "(If 2 (Block (Expr 1)))"}, {"1 unless 2;", "(If (Not 2) (Block (Expr 1)))"}, {"$x = 1 if 2 and 3;", "(If (Logic && 2 3) (Block (Expr (Assign $x 1))))"}, {"1 or 2 if 3;", "(If 3 (Block (Expr (Logic || 1 2))))"},
		{"f(1);", "(Expr (Call f 1))"}, {"A->b;", "(Expr (Method b 'A'))"}, {"print(1);", "(Expr (Func print 1))"}, {"({});", "(Expr (NewHash))"}, {"do {1;};", "(Expr (Do (Block (Expr 1))))"},
	})
}

// P4.1: the number of the first token that no rule of statements has.
func TestMisfitsOfStatements(t *testing.T) {
	hold(t, told, [][2]string{
		{"}", misfit(0)}, {")", misfit(0)}, {"]", misfit(0)}, {",", misfit(0)}, {":", misfit(0)}, {"=>", misfit(0)}, {"->", misfit(0)}, {"=", misfit(0)}, {"?", misfit(0)}, {"1; }", misfit(2)}, {"{}}", misfit(2)},
		{"1", misfit(1)}, {"1 2;", misfit(1)}, {"1; 2", misfit(3)}, {"{1}", misfit(2)}, {"{", misfit(1)}, {"{1;", misfit(3)}, {"{{}", misfit(3)},
		{"1 {}", misfit(1)}, {"f(1) {}", misfit(4)}, {"{} 1", misfit(3)},
		{"L:", misfit(2)}, {"L: 1;", misfit(2)}, {"L: ;", misfit(2)}, {"L: f();", misfit(2)}, {"L: if (1) {}", misfit(2)}, {"L: sub f {}", misfit(2)}, {"L: M: {}", misfit(2)}, {"L: return;", misfit(2)}, {"L: BEGIN {}", misfit(2)}, {"L: }", misfit(2)}, {"L", misfit(1)}, {"L;", misfit(1)}, {"L {}", misfit(1)},
		{"sub", misfit(1)}, {"sub;", misfit(1)}, {"sub 1 {}", misfit(1)}, {"sub f", misfit(2)}, {"sub f;", misfit(2)}, {"sub f (", misfit(2)}, {"sub f {", misfit(3)}, {"sub f {1}", misfit(4)}, {"sub $x {}", misfit(1)}, {"sub f {} ;", "(Define f (Block))"}, {"sub {}", misfit(3)}, {"sub {} 1;", misfit(3)},
		{"package", misfit(1)}, {"package;", misfit(1)}, {"package 1;", misfit(1)}, {"package A", misfit(2)}, {"package A {}", misfit(2)}, {"package A B;", misfit(2)},
		{"if", misfit(1)}, {"if 1", misfit(1)}, {"if (", misfit(2)}, {"if () {}", misfit(2)}, {"if (1", misfit(3)}, {"if (1, 2) {}", misfit(3)}, {"if (1)", misfit(4)}, {"if (1) 2;", misfit(4)}, {"if (1) {", misfit(5)}, {"if (1) {} elsif {}", misfit(7)}, {"if (1) {} elsif (2)", misfit(10)}, {"if (1) {} else 2;", misfit(7)}, {"if (1) {} else (2) {}", misfit(7)}, {"if (1) {} else {} else {}", misfit(9)}, {"if (1) {} else {} elsif (2) {}", misfit(9)}, {"if (1) {} unless {}", misfit(7)},
		{"unless (1)", misfit(4)}, {"elsif (1) {}", misfit(0)}, {"else {}", misfit(0)}, {"1; else {}", misfit(2)},
		{"while 1", misfit(1)}, {"while () {}", misfit(2)}, {"while (1) 2;", misfit(4)}, {"while (1, 2) {}", misfit(3)}, {"until {}", misfit(1)}, {"while (1) {} else {}", misfit(6)},
		{"for {}", misfit(1)}, {"for 1", misfit(1)}, {"for $x (1) {}", misfit(1)}, {"for my (1) {}", misfit(2)}, {"for my @x (1) {}", misfit(2)}, {"for my %x (1) {}", misfit(2)}, {"for my &x (1) {}", misfit(2)}, {"for my $x {}", misfit(3)}, {"for my $x my $y (1) {}", misfit(3)}, {"for our $x (1) {}", misfit(1)}, {"for my $_ (1) {}", misfit(2)}, {"for my $1 (1) {}", misfit(2)}, {"for my $@ (1) {}", misfit(2)}, {"for my $& (1) {}", misfit(2)}, {"for my $a::b (1) {}", misfit(2)}, {"for my ($x) (1) {}", misfit(2)}, {"for (1; 2) {}", misfit(3)}, {"for (,) {}", misfit(2)}, {"for (1)", misfit(4)}, {"for (1) 2;", misfit(4)},
		{"return", misfit(1)}, {"return }", misfit(1)}, {"return 1", misfit(2)}, {"return 1, 2;", misfit(2)}, {"return if 1;", misfit(1)}, {"return 1 if 2;", misfit(2)}, {"return {};", misfit(1)}, {"return return;", misfit(1)},
		{"last", misfit(1)}, {"last 1;", misfit(1)}, {"last L", misfit(2)}, {"last L M;", misfit(2)}, {"next if 1;", misfit(1)}, {"last (L);", misfit(1)}, {"1 or last;", misfit(2)},
		{"BEGIN", misfit(1)}, {"BEGIN 1;", misfit(1)}, {"BEGIN f {}", misfit(1)}, {"END;", misfit(1)}, {"BEGIN {", misfit(2)},
		{"1 if", misfit(2)}, {"1 if;", misfit(2)}, {"1 if 2", misfit(3)}, {"1 if 2 if 3;", misfit(3)}, {"1 while 2;", misfit(1)}, {"1 for 2;", misfit(1)}, {"1 if 2, 3;", misfit(3)}, {"1 if (2) {}", misfit(5)},
	})
}

// grammarWords are the words of the grammar that are no functions, as the chapter lists them.
var grammarWords = strings.Fields("my our local sub return package last next if unless elsif else while until for do eval map grep sort and or not x lt gt le ge eq ne cmp BEGIN END q qq qw m s tr")

// P4.1: words of the grammar, and functions, are no labels, and the names of nothing.
func TestWordsOfTheGrammarAsNames(t *testing.T) {
	words := append(functionNames(), grammarWords...)
	for _, w := range words {
		if tree.IsName(w) {
			t.Errorf("IsName of %s", w)
		}
		for s, at := range map[string]int{"sub % {}": 1, "package % ;": 1, "last % ;": 1, "next % ;": 1, "$x->% ;": 2, "$x->% (1);": 2, "$x->% => 1;": 2} {
			hold(t, told, [][2]string{{strings.ReplaceAll(s, "%", w), misfit(at)}})
		}
		// As a label: what begins no statement and no expression is wrong itself, else what stands behind it.
		at := 1
		switch w {
		case "elsif", "else", "and", "or", "x", "lt", "gt", "le", "ge", "eq", "ne", "cmp", "q", "qq", "qw", "m", "s", "tr":
			at = 0
		}
		hold(t, told, [][2]string{{w + ": {}", misfit(at)}, {w + " : while (1) {}", misfit(at)}, {w + " => 1;", misfit(1)}})
	}
	for _, w := range []string{"f", "f1", "_", "A::b", "SUPER::m", "iff", "If", "begin", "Print", "prints", "xx", "y", "abcdefghijkl"} {
		if !tree.IsName(w) {
			t.Errorf("not IsName of %s", w)
		}
		hold(t, told, [][2]string{
			{w + ": {}", "(Block T=" + w + ")"}, {"sub " + w + " {}", "(Define " + w + " (Block))"}, {"package " + w + ";", "(Package " + w + ")"},
			{"last " + w + ";", "(Leave last T=" + w + ")"}, {"$x->" + w + ";", "(Expr (Method " + w + " $x))"}, {w + "->n;", "(Expr (Method n '" + w + "'))"}, {w + "(1);", "(Expr (Call " + w + " 1))"},
		})
	}
	for _, w := range []string{"", "1", "a-b", "a b", "a::", "::a", "$x", "abcdefghijklm", "ä"} {
		if tree.IsName(w) {
			t.Errorf("IsName of %q", w)
		}
	}
}
