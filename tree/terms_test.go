package tree_test

import (
	"testing"

	"motley/api"
	"motley/lex"
)

// P4.1: terms.
func TestTerms(t *testing.T) {
	hold(t, toldExpr, [][2]string{
		{"0", "0"}, {"7", "7"}, {"10", "10"}, {"100000000000000", "100000000000000"}, {"999999999999999", "999999999999999"},
		{"1000000000000000", misfit(0)}, {"9999999999999999", misfit(0)}, {"99999999999999999999999999", misfit(0)}, {"00", misfit(0)}, {"01", misfit(0)}, {"007", misfit(0)}, {"000000000000001", misfit(0)}, {"1 + 01", misfit(2)}, {"$x[00]", misfit(2)}, {"1 - 1000000000000000", misfit(2)},
		{"'a'", "'a'"}, {"''", "''"}, {"q(a$b)", "'a$b'"}, {"'a' 'b'", "error 2 at 4"}, {"<<'E'\na\nE\n", "'a\n'"},
		{`"a"`, "'a'"}, {`""`, "''"}, {`"a$b"`, "(Join 'a' $b)"}, {"qq(a@b)", "(Join 'a' @b)"}, {"<<E\n$a\nE\n", "(Join $a '\n')"},
		{"qw()", "(List)"}, {"qw(a)", "(List 'a')"}, {"qw( a  b\n c )", "(List 'a' 'b' 'c')"}, {"qw($x @y)", "(List '$x' '@y')"},
		{"()", "(List)"}, {"(1)", "1"}, {"((1))", "1"}, {"(1,)", "(List 1)"}, {"((1,))", "(List 1)"}, {"((1),)", "(List 1)"}, {"(1, 2)", "(List 1 2)"}, {"(1 => 2)", "(List 1 2)"}, {"(1, 2,)", "(List 1 2)"}, {"(1 => 2, 3 => 4,)", "(List 1 2 3 4)"}, {"(())", "(List)"}, {"((1, 2), 3)", "(List (List 1 2) 3)"}, {"($x = 1)", "(Assign $x 1)"}, {"(qw(a b))", "(List 'a' 'b')"},
		{"(,)", misfit(1)}, {"(1,,)", misfit(3)}, {"(1 =>)", misfit(3)}, {"(1, =>)", misfit(3)}, {"(1 =>, 2)", misfit(3)}, {"(1 2)", misfit(2)}, {"(1;)", misfit(2)}, {"(", misfit(1)}, {"(1", misfit(2)}, {"(1,", misfit(3)}, {"(1 or 2)", misfit(2)}, {"(not 1)", misfit(1)}, {"(1]", misfit(2)}, {"1)", misfit(1)}, {"1, 2", misfit(1)}, {"1 => 2", misfit(1)},
		{"[]", "(NewArr)"}, {"[1]", "(NewArr 1)"}, {"[1, 2,]", "(NewArr 1 2)"}, {"[(1, 2)]", "(NewArr (List 1 2))"}, {"[[]]", "(NewArr (NewArr))"}, {"[,]", misfit(1)}, {"[1", misfit(2)}, {"[1)", misfit(2)}, {"[1 or 2]", misfit(2)},
		{"[{}]", "(NewArr (NewHash))"}, {"[{1, 2}]", "(NewArr (NewHash 1 2))"}, {"[{a => 1,}]", "(NewArr (NewHash 'a' 1))"}, {"({1 => {}})", "(NewHash 1 (NewHash))"}, {"-{}", "(Neg (NewHash))"}, {"[{a}]", misfit(3)}, {"[{1;}]", misfit(3)}, {"[{,}]", misfit(2)}, {"[{1}", misfit(4)}, {"[{1]", misfit(3)},
		{"{}", misfit(0)}, {"{1, 2}", misfit(0)}, {"+{}", misfit(0)}, {";", misfit(0)}, {"1;", misfit(1)},
		{"sub {}", "(Sub (Block))"}, {"sub {1; 2;}", "(Sub (Block (Expr 1) (Expr 2)))"}, {"do {1;}", "(Do (Block (Expr 1)))"}, {"eval {}", "(Eval (Block))"}, {"do {L: {}}", "(Do (Block (Block T=L)))"}, {"sub {} . do {}", "(Bin . (Sub (Block)) (Do (Block)))"},
		{"sub", misfit(1)}, {"sub f {}", misfit(1)}, {"sub 1", misfit(1)}, {"do", misfit(1)}, {"do 1", misfit(1)}, {"do (1)", misfit(1)}, {"eval", misfit(1)}, {"eval 1", misfit(1)}, {"eval (1)", misfit(1)}, {"do {1}", misfit(3)}, {"sub {", misfit(2)},
		{"map {} ()", "(Each map (Block) (List))"}, {"grep {1;} (1)", "(Each grep (Block (Expr 1)) (List 1))"}, {"sort {$a <=> $b;} (@x, 1,)", "(Each sort (Block (Expr (Bin <=> $a $b))) (List @x 1))"}, {"map {} ((1, 2))", "(Each map (Block) (List (List 1 2)))"},
		{"map", misfit(1)}, {"map (1)", misfit(1)}, {"map {}", misfit(3)}, {"map {} 1", misfit(3)}, {"map {} (1", misfit(5)}, {"map {1} (1)", misfit(3)}, {"sort (@x)", misfit(1)}, {"grep {} [1]", misfit(3)},
		{"f()", "(Call f)"}, {"f(1)", "(Call f 1)"}, {"f(1, 2,)", "(Call f 1 2)"}, {"f((1, 2))", "(Call f (List 1 2))"}, {"A::f(1)", "(Call A::f 1)"}, {"f (1)", "(Call f 1)"}, {"f(g(1))", "(Call f (Call g 1))"},
		{"f", misfit(1)}, {"f 1", misfit(1)}, {"f + 1", misfit(1)}, {"f{a}", misfit(1)}, {"f[1]", misfit(1)}, {"f . 1", misfit(1)}, {"1 + f", misfit(3)}, {"f(1", misfit(3)}, {"(f)", misfit(2)}, {"f()()", misfit(3)}, {"f,", misfit(1)},
		{"A->n", "(Method n 'A')"}, {"A::b->n(1)", "(Method n 'A::b' 1)"}, {"A->[0]", "(Index (Deref @ 'A') 0)"}, {"A->{b}", "(Key (Deref % 'A') 'b')"}, {"A->()", "(CallRef 'A')"}, {"A->n->m1", "(Method m1 (Method n 'A'))"},
	})
	for _, w := range []string{"return", "package", "last", "next", "if", "unless", "elsif", "else", "while", "until", "for", "and", "or", "x", "lt", "gt", "le", "ge", "eq", "ne", "cmp", "BEGIN", "END", "q", "qq", "qw", "m", "s", "tr"} {
		hold(t, toldExpr, [][2]string{{w, misfit(0)}, {"1 + " + w, misfit(2)}, {"f(" + w + ", 1)", misfit(2)}, {w + "->n", misfit(0)}})
	}
}

// P4.1: a word before `=>` is a text where a term may stand, and what it is otherwise behind a term.
func TestWordsBeforeArrows(t *testing.T) {
	for _, w := range append(append(functionNames(), grammarWords...), "f", "A::b", "_", "If") {
		hold(t, toldExpr, [][2]string{
			{"(" + w + " => 1)", "(List '" + w + "' 1)"}, {"(1, " + w + " => 1)", "(List 1 '" + w + "' 1)"}, {"f(" + w + "=>1)", "(Call f '" + w + "' 1)"}, {"[{" + w + "\n=> 1}]", "(NewArr (NewHash '" + w + "' 1))"},
			{"(1 . " + w + " => 1)", "(List (Bin . 1 '" + w + "') 1)"}, {"(-" + w + " => 1)", "(List (Neg '" + w + "') 1)"}, {"(" + w + " =>)", misfit(3)}, {w + " => 1", misfit(1)},
			{"$x{" + w + " => 1}", misfit(3)}, {"@x{" + w + " => 1}", "(Keys %x (List '" + w + "' 1))"}, {"(1 ? " + w + " => 2 : 3)", misfit(4)},
		})
		if !isOneOf(w, "and", "or", "x", "lt", "gt", "le", "ge", "eq", "ne", "cmp") {
			hold(t, toldExpr, [][2]string{{"($x " + w + " => 1)", misfit(2)}})
		}
	}
	for _, w := range []string{"x", "lt", "gt", "le", "ge", "eq", "ne", "cmp"} {
		hold(t, toldExpr, [][2]string{{"($x " + w + " => 1)", misfit(3)}, {"($x " + w + " " + w + " => 1)", "(List (Bin " + w + " $x '" + w + "') 1)"}})
	}
}

func isOneOf(s string, l ...string) bool {
	for _, x := range l {
		if s == x {
			return true
		}
	}
	return false
}

// P4.1: variables, and what stands directly behind them.
func TestVariables(t *testing.T) {
	hold(t, toldExpr, [][2]string{
		{"$x", "$x"}, {"@x", "@x"}, {"%x", "%x"}, {"$A::b", "$A::b"}, {"$_", "$_"}, {"@_", "@_"}, {"%_", "%_"}, {"$1", "$1"}, {"$9", "$9"}, {"$@", "$@"}, {"$&", "$&"}, {"$if", "$if"}, {"@print", "@print"}, {"%my", "%my"},
		{"$x[0]", "(Index @x 0)"}, {"$x[-1]", "(Index @x (Neg 1))"}, {"$x[$y]", "(Index @x $y)"}, {"$x[1 or 2]", "(Index @x (Logic || 1 2))"}, {"$x[(1, 2)]", "(Index @x (List 1 2))"}, {"$x [0]", "(Index @x 0)"}, {"$_[0]", "(Index @_ 0)"}, {"$x[$y[0]]", "(Index @x (Index @y 0))"},
		{"$x[]", misfit(2)}, {"$x[1, 2]", misfit(3)}, {"$x[1", misfit(3)}, {"$x[1)", misfit(3)}, {"$x[a]", misfit(3)},
		{"$x{a}", "(Key %x 'a')"}, {"$x{'a'}", "(Key %x 'a')"}, {`$x{"a$b"}`, "(Key %x (Join 'a' $b))"}, {"$x{1}", "(Key %x 1)"}, {"$x{-a => 1}", misfit(4)}, {"$x{$y}", "(Key %x $y)"}, {"$x{A::b}", "(Key %x 'A::b')"}, {"$x{f()}", "(Key %x (Call f))"}, {"$x{A->b}", "(Key %x (Method b 'A'))"}, {"$x{1 or 2}", "(Key %x (Logic || 1 2))"}, {"$x{not 1}", "(Key %x (Not 1))"}, {"$x{my $y}", "(Key %x (My my $y))"}, {"$x{length($y)}", "(Key %x (Func length $y))"}, {"$x{$y{a}}", "(Key %x (Key %y 'a'))"}, {"$x{(a)}", misfit(4)}, {"$_{a}", "(Key %_ 'a')"},
		{"$x{}", misfit(2)}, {"$x{1, 2}", misfit(3)}, {"$x{a", misfit(3)}, {"$x{a b}", misfit(3)}, {"$x{1 2}", misfit(3)}, {"$x{f + 1}", misfit(3)}, {"$x{a, b}", misfit(3)}, {"$x {a}", misfit(1)}, {"$x\n{a}", misfit(1)}, {"$x{a => 1}", misfit(3)},
		// A grammar's word can be a key, so it is what stands behind it that does not fit.
		{"$x{if 1}", misfit(3)}, {"$x{x", misfit(3)}, {"$x{q + 1}", misfit(3)},
		{"@x[0]", "(Slice @x (List 0))"}, {"@x[0, 1]", "(Slice @x (List 0 1))"}, {"@x[]", "(Slice @x (List))"}, {"@x[1,]", "(Slice @x (List 1))"}, {"@x[(1, 2)]", "(Slice @x (List (List 1 2)))"}, {"@x[@y]", "(Slice @x (List @y))"}, {"@_[1]", "(Slice @_ (List 1))"}, {"@x[1 or 2]", misfit(3)}, {"@x[1 2]", misfit(3)}, {"@x[,]", misfit(2)},
		{"@x{'a'}", "(Keys %x (List 'a'))"}, {"@x{'a', 'b'}", "(Keys %x (List 'a' 'b'))"}, {"@x{}", "(Keys %x (List))"}, {"@x{qw(a b)}", "(Keys %x (List (List 'a' 'b')))"}, {"@x{a}", misfit(3)}, {"@x{a, b}", misfit(3)}, {"@x{if}", misfit(2)}, {"@x {1}", misfit(1)}, {"@x{1 or 2}", misfit(3)},
		{"%x[0]", misfit(1)}, {"%x{a}", misfit(1)}, {"$1[0]", misfit(1)}, {"$1{a}", misfit(1)}, {"$@[0]", misfit(1)}, {"$@{a}", misfit(1)}, {"$&[0]", misfit(1)}, {"$&{a}", misfit(1)},
		{"&x(1)", "(CallRef $x 1)"}, {"&x()", "(CallRef $x)"}, {"&_(1, 2)", "(CallRef $_ 1 2)"}, {"&A::b(1)", "(CallRef $A::b 1)"}, {"&x", misfit(1)}, {"&x + 1", misfit(1)}, {"&x[0]", misfit(1)}, {"&x{a}", misfit(1)}, {"&x->()", misfit(1)}, {"&x;", misfit(1)}, {"\\&x", misfit(2)},
		{"$x $y", "error 2 at 3"}, {"$x 1", misfit(1)}, {"$x f", misfit(1)}, {"$x(1)", misfit(1)}, {"@x(1)", misfit(1)}, {"%x(1)", misfit(1)},
	})
	for _, w := range append(functionNames(), grammarWords...) {
		hold(t, toldExpr, [][2]string{{"$x{" + w + "}", "(Key %x '" + w + "')"}, {"$x->{" + w + "}", "(Key (Deref % $x) '" + w + "')"}, {"$" + w, "$" + w}, {"@" + w + "[0]", "(Slice @" + w + " (List 0))"}})
	}
}

// P4.1: a sigil and what it refers to.
func TestDerefs(t *testing.T) {
	hold(t, toldExpr, [][2]string{
		{"$$x", "(Deref $ $x)"}, {"@$x", "(Deref @ $x)"}, {"%$x", "(Deref % $x)"}, {"% $x", "(Deref % $x)"}, {"$$_", "(Deref $ $_)"}, {"$$1", "(Deref $ $1)"}, {"@$@", "(Deref @ $@)"},
		{"${$x}", "(Deref $ $x)"}, {"@{$x}", "(Deref @ $x)"}, {"%{$x}", "(Deref % $x)"}, {"% {$x}", "(Deref % $x)"}, {"@{f()}", "(Deref @ (Call f))"}, {"@{$x->{a}}", "(Deref @ (Key (Deref % $x) 'a'))"}, {"@{@{$x}}", "(Deref @ (Deref @ $x))"}, {"${$x or $y}", "(Deref $ (Logic || $x $y))"}, {"@{[1]}", "(Deref @ (NewArr 1))"}, {"%{({})}", "(Deref % (NewHash))"}, {"@{(1, 2)}", "(Deref @ (List 1 2))"}, {"${ $$x }", "(Deref $ (Deref $ $x))"},
		{"$$x[0]", "(Index (Deref @ $x) 0)"}, {"$$x{a}", "(Key (Deref % $x) 'a')"}, {"${$x}[0]", "(Index (Deref @ $x) 0)"}, {"${$x}{a}", "(Key (Deref % $x) 'a')"}, {"${$x}{if}", "(Key (Deref % $x) 'if')"}, {"$$1[0]", "(Index (Deref @ $1) 0)"},
		{"@$x[0]", "(Slice (Deref @ $x) (List 0))"}, {"@$x{'a'}", "(Keys (Deref % $x) (List 'a'))"}, {"@{$x}[0, 1]", "(Slice (Deref @ $x) (List 0 1))"}, {"@{$x}{'a', 'b'}", "(Keys (Deref % $x) (List 'a' 'b'))"}, {"@{$x}{}", "(Keys (Deref % $x) (List))"},
		{"&$x(1)", "(CallRef $x 1)"}, {"&$x()", "(CallRef $x)"}, {"& $x (1)", "(CallRef $x 1)"}, {"&{$x}(1)", "(CallRef $x 1)"}, {"&{f()}(1, 2)", "(CallRef (Call f) 1 2)"}, {"&{sub {}}()", "(CallRef (Sub (Block)))"},
		{"%$x[0]", misfit(2)}, {"%$x{a}", misfit(2)}, {"%{$x}[0]", misfit(4)}, {"%{$x}{a}", misfit(4)}, {"&$x", misfit(2)}, {"&{$x}", misfit(4)}, {"&$x[0](1)", misfit(2)}, {"&$x->()", misfit(2)}, {"${$x} {a}", misfit(4)}, {"$$x {a}", misfit(2)},
		{"$$$x", misfit(1)}, {"@$$x", misfit(1)}, {"${}", misfit(2)}, {"${x}", misfit(2)}, {"@{x}", misfit(2)}, {"${f}", misfit(3)}, {"@{f}", misfit(3)}, {"@{1, 2}", misfit(3)}, {"@{1;}", misfit(3)}, {"@{1", misfit(3)}, {"%", misfit(1)}, {"&", misfit(1)}, {"% 1", misfit(1)}, {"% @x", misfit(1)}, {"& &x", misfit(1)}, {"% (1)", misfit(1)}, {"%%x", misfit(1)}, {"%@$x", misfit(1)}, {"& x", misfit(1)},
	})
}

// P4.1: each way of a post, behind each thing that it may stand behind and that it may not.
func TestPosts(t *testing.T) {
	const other, method, call, element = 0, 1, 2, 3
	for _, c := range []struct {
		s, told string
		kind    int
	}{
		{"1", "1", other}, {"'a'", "'a'", other}, {`"a"`, "'a'", other}, {`"$x"`, "(Join $x)", other}, {"qw(a)", "(List 'a')", other},
		{"/a/", "(Match a $_)", other}, {"s/a/b/", "(Subst a $_ 'b')", other}, {"tr/a/b/", "(Trans a T=b $_ '')", other},
		{"(1)", "1", other}, {"(1, 2)", "(List 1 2)", other}, {"()", "(List)", other}, {"($x)", "$x", other}, {"(@x)", "@x", other}, {"($x[1])", "(Index @x 1)", other}, {"($x->(1))", "(CallRef $x 1)", other}, {"[1]", "(NewArr 1)", other},
		{"%x", "%x", other}, {"$1", "$1", other}, {"%$x", "(Deref % $x)", other},
		{"&x(1)", "(CallRef $x 1)", other}, {"&$x(1)", "(CallRef $x 1)", other}, {"&{$x}(1)", "(CallRef $x 1)", other},
		{"my $x", "(My my $x)", other}, {"our @x", "(My our @x)", other}, {"my ($x)", "(My my N=1 $x)", other},
		{"sub {}", "(Sub (Block))", other}, {"do {}", "(Do (Block))", other}, {"eval {}", "(Eval (Block))", other}, {"map {} (1)", "(Each map (Block) (List 1))", other},
		{"f(1)", "(Call f 1)", other}, {"length(1)", "(Func length 1)", other},
		{"@x[1]", "(Slice @x (List 1))", other}, {"@x{'b'}", "(Keys %x (List 'b'))", other}, {"@$x[1]", "(Slice (Deref @ $x) (List 1))", other}, {"@{$x}{'b'}", "(Keys (Deref % $x) (List 'b'))", other},
		{"$x->n", "(Method n $x)", method}, {"$x->n(1)", "(Method n $x 1)", other}, {"A->n(1)", "(Method n 'A' 1)", other}, {"$x->[1]->n(1)", "(Method n (Index (Deref @ $x) 1) 1)", other},
		{"$x[1]", "(Index @x 1)", element}, {"$x{b}", "(Key %x 'b')", element}, {"$$x[1]", "(Index (Deref @ $x) 1)", element}, {"${$x}{b}", "(Key (Deref % $x) 'b')", element}, {"$x->[1]", "(Index (Deref @ $x) 1)", element}, {"$x->{b}", "(Key (Deref % $x) 'b')", element},
		{"$x[1][2]", "(Index (Deref @ (Index @x 1)) 2)", element}, {"$x[1]{b}", "(Key (Deref % (Index @x 1)) 'b')", element}, {"$x{b}{c}", "(Key (Deref % (Key %x 'b')) 'c')", element}, {"$x->[1][2]", "(Index (Deref @ (Index (Deref @ $x) 1)) 2)", element}, {"$x->{b}[2]", "(Index (Deref @ (Key (Deref % $x) 'b')) 2)", element}, {"f()->[1]", "(Index (Deref @ (Call f)) 1)", element}, {"$x->(1)->[2]", "(Index (Deref @ (CallRef $x 1)) 2)", element}, {"[1]->[0]", "(Index (Deref @ (NewArr 1)) 0)", element}, {"(1)->{b}", "(Key (Deref % 1) 'b')", element},
		{"$x->(1)", "(CallRef $x 1)", call}, {"$x->()", "(CallRef $x)", call}, {"$x[1](2)", "(CallRef (Index @x 1) 2)", call}, {"$x->{b}(2)", "(CallRef (Key (Deref % $x) 'b') 2)", call}, {"$x->(1)(2)", "(CallRef (CallRef $x 1) 2)", call}, {"f()->(1)", "(CallRef (Call f) 1)", call}, {"&x(1)->(2)", "(CallRef (CallRef $x 1) 2)", call}, {"$x->n->(1)", "(CallRef (Method n $x) 1)", call},
	} {
		l, n, e := lex.Lex(c.s)
		if e != api.OK {
			t.Fatalf("Lex of %q: %v %d", c.s, l, e)
		}
		hold(t, toldExpr, [][2]string{
			{c.s, c.told},
			{c.s + "->[0]", "(Index (Deref @ " + c.told + ") 0)"}, {c.s + "->[1 or 2]", "(Index (Deref @ " + c.told + ") (Logic || 1 2))"}, {c.s + "->{a}", "(Key (Deref % " + c.told + ") 'a')"}, {c.s + "->{if}", "(Key (Deref % " + c.told + ") 'if')"}, {c.s + " -> {'a'}", "(Key (Deref % " + c.told + ") 'a')"},
			{c.s + "->()", "(CallRef " + c.told + ")"}, {c.s + "->(1, 2,)", "(CallRef " + c.told + " 1 2)"}, {c.s + "->n", "(Method n " + c.told + ")"}, {c.s + "->n()", "(Method n " + c.told + ")"}, {c.s + "->A::n(1, 2)", "(Method A::n " + c.told + " 1 2)"}, {c.s + "->n . 1", "(Bin . (Method n " + c.told + ") 1)"},
			{c.s + "->", misfit(n + 1)}, {c.s + "->1", misfit(n + 1)}, {c.s + "->$x", misfit(n + 1)}, {c.s + "->@x", misfit(n + 1)}, {c.s + "->'a'", misfit(n + 1)}, {c.s + "->print", misfit(n + 1)}, {c.s + "->[]", misfit(n + 2)}, {c.s + "->[1, 2]", misfit(n + 3)}, {c.s + "->{}", misfit(n + 2)}, {c.s + "->->n", misfit(n + 1)},
		})
		index, key, args := misfit(n), misfit(n), misfit(n)
		if c.kind == element {
			index, key = "(Index (Deref @ "+c.told+") 0)", "(Key (Deref % "+c.told+") 'a')"
		}
		if c.kind == method {
			args = "(Method n $x 0)"
		}
		if c.kind >= call {
			args = "(CallRef " + c.told + " 0)"
		}
		hold(t, toldExpr, [][2]string{{c.s + "[0]", index}, {c.s + "{a}", key}, {c.s + "(0)", args}, {c.s + " {a}", misfit(n)}})
	}
}
