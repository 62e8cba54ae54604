package tree_test

import (
	"fmt"
	"testing"

	"motley/api"
	"motley/lex"
	"motley/tree"
)

// places are expressions by what can be done with them: assigned, updated (and so assigned as well), made local.
var places = []struct {
	s                         string
	assigned, updated, locals bool
}{
	{"$x", true, true, true}, {"$_", true, true, true}, {"$1", true, true, true}, {"$@", true, true, true}, {"$&", true, true, true}, {"$A::b", true, true, true},
	{"$x[0]", true, true, true}, {"$x{a}", true, true, true}, {"$x->[0]", true, true, true}, {"$x->{a}", true, true, true}, {"$$x[0]", true, true, true}, {"f()->[0]", true, true, true}, {"$x[0]{a}", true, true, true},
	{"@x", true, false, true}, {"%x", true, false, true}, {"@_", true, false, true},
	{"@x[0]", true, false, true}, {"@x{'a'}", true, false, true}, {"@$x[0]", true, false, true}, {"@{$x}{'a'}", true, false, true},
	{"$$x", true, true, false}, {"${f()}", true, true, false}, {"${$$x}", true, true, false}, {"@$x", true, false, false}, {"%$x", true, false, false}, {"@{$x}", true, false, false}, {"%{f()}", true, false, false}, {"@{$$x}", true, false, false},
	{"my $x", true, true, false}, {"my @x", true, false, false}, {"my %x", true, false, false}, {"my ($x)", true, false, false}, {"my (@x)", true, false, false}, {"our $x", true, true, false}, {"our @x", true, false, false}, {"our %x", true, false, false}, {"our ($x)", true, false, false}, {"our ($x, @y)", true, false, false}, {"(my $x)", true, true, false}, {"(my ($x))", true, false, false},
	{"(local $x)", true, true, false}, {"(local $x[0])", true, true, false}, {"(local $x->{a})", true, true, false}, {"(local @x)", true, false, false}, {"(local %x)", true, false, false}, {"(local @x[0])", true, false, false}, {"(local @x{'a'})", true, false, false}, {"(local ($x, $y))", true, false, false}, {"(local ())", true, false, false},
	{"()", true, false, true}, {"($x, $y)", true, false, true}, {"($x, @y, %z)", true, false, true}, {"($x[0], $y{a}, @z[1])", true, false, true}, {"($x,)", true, false, true}, {"(($x, $y), $z)", true, false, true}, {"((), $z)", true, false, true},
	{"($x, $$y)", true, false, false}, {"($x, my $y)", true, false, false}, {"(my ($x, $y), @$z)", true, false, false}, {"($x, undef(), $y)", true, false, false}, {"(undef(),)", true, false, false}, {"(($x, undef()), $y)", true, false, false}, {"($x, local $y)", true, false, false},
	{"($x, undef($y))", false, false, false}, {"($x, 1)", false, false, false}, {"($x, f())", false, false, false}, {"($x, ($y, 1))", false, false, false}, {"($x, $y = 1)", false, false, false}, {"(1, 2)", false, false, false},
	{"undef()", false, false, false}, {"1", false, false, false}, {"'a'", false, false, false}, {`"$x"`, false, false, false}, {"qw(a)", false, false, false}, {"/a/", false, false, false}, {"tr/a/b/", false, false, false}, {"[1]", false, false, false},
	{"f()", false, false, false}, {"$x->()", false, false, false}, {"&x()", false, false, false}, {"$x->n", false, false, false}, {"length($x)", false, false, false}, {"sub {}", false, false, false}, {"do {}", false, false, false}, {"eval {}", false, false, false}, {"map {} ()", false, false, false}, {"A->n", false, false, false},
}

// P4.1: what can stand left of assignments, and on both sides of `++` and `--`, and the token at which it is found where it cannot.
func TestLeftSides(t *testing.T) {
	for _, c := range places {
		x, n, e := tree.ParseExpr(c.s)
		if e != api.OK {
			t.Fatalf("%s: %d %d", c.s, n, e)
		}
		told, left := tell(x), tell(x)
		if c.s[0] == '(' && x.Op == api.NMy {
			// Parentheses directly before `=` make a list also of one element.
			left = "(List " + told + ")"
		}
		right := func(is bool, s string, at int) string {
			if is {
				return s
			}
			return misfit(at)
		}
		hold(t, toldExpr, [][2]string{{c.s + " = 1", right(c.assigned, "(Assign "+left+" 1)", n)}, {"1 ? " + c.s + " = 1 : 2", right(c.assigned, "(Cond 1 (Assign "+left+" 1) 2)", n+2)}})
		for _, u := range updates {
			// Behind the `}` of a block a term is expected, where a `/` begins a pattern.
			if u[0] == '/' && c.s[len(c.s)-1] == '}' {
				continue
			}
			hold(t, toldExpr, [][2]string{{c.s + " " + u + " 1", right(c.updated, "(Update "+u+" "+told+" 1)", n)}})
		}
		for _, sign := range []string{"++", "--"} {
			hold(t, toldExpr, [][2]string{
				{c.s + " " + sign, right(c.updated, "(Inc x"+sign+" "+told+")", n)}, {sign + c.s, right(c.updated, "(Inc "+sign+"x "+told+")", 0)},
				{"1 + " + sign + c.s + " * 2", right(c.updated, "(Bin + 1 (Bin * (Inc "+sign+"x "+told+") 2))", 2)},
			})
		}
		hold(t, toldExpr, [][2]string{{"local " + c.s, right(c.locals, "(My local "+told+")", 0)}, {"1 . local " + c.s + " . 2", right(c.locals, "(Bin . (Bin . 1 (My local "+told+")) 2)", 2)}})
	}
	hold(t, toldExpr, [][2]string{
		{"($x) = 1", "(Assign (List $x) 1)"}, {"(($x)) = 1", "(Assign (List $x) 1)"}, {"(($x), $y) = 1", "(Assign (List $x $y) 1)"}, {"my $y = ($x) = 1", "(Assign (My my $y) (Assign (List $x) 1))"}, {"(1) = 2", misfit(3)}, {"(f()) = 2", misfit(5)},
		{"($x) += 1", "(Update += $x 1)"}, {"($x)++", "(Inc x++ $x)"}, {"++($x)", "(Inc ++x $x)"}, {"($x) == 1", "(Bin == $x 1)"}, {"(1) => 2", misfit(3)}, {"(@x) = @y", "(Assign (List @x) @y)"}, {"(undef()) = 1", "(Assign (List (Func undef)) 1)"}, {"qw() = 1", "(Assign (List) 1)"},
		{"1 = )", misfit(1)}, {"$x = )", misfit(2)}, {"++1 + )", misfit(0)}, {"++(", misfit(2)}, {"$x = 1 = 2", misfit(3)}, {"1 = 2 = 3", misfit(1)}, {"f(1 = 2)", misfit(3)}, {"$x + $y = 1", misfit(3)}, {"$x ? $y : 1 = 2", misfit(5)}, {"$x .. $y = 1", misfit(3)},
	})
}

// P4.1: `local`, and what comes behind its operand.
func TestLocal(t *testing.T) {
	hold(t, toldExpr, [][2]string{
		{"local $x = 1", "(Assign (My local $x) 1)"}, {"local ($x) = 1", "(Assign (My local (List $x)) 1)"}, {"local ($x)", "(My local $x)"}, {"local ($x, $y) = (1, 2)", "(Assign (My local (List $x $y)) (List 1 2))"}, {"local $x += 1", "(Update += (My local $x) 1)"}, {"local $x->[0] = 1", "(Assign (My local (Index (Deref @ $x) 0)) 1)"}, {"local $x[0][1]", "(My local (Index (Deref @ (Index @x 0)) 1))"},
		{"(local $x)++", "(Inc x++ (My local $x))"}, {"(local $x)->[0]", "(Index (Deref @ (My local $x)) 0)"}, {"local $x =~ /a/", "(Match a (My local $x))"}, {"local $x . 1", "(Bin . (My local $x) 1)"}, {"local $x, 1", misfit(2)},
		{"local", misfit(1)}, {"local 1", misfit(0)}, {"local x", misfit(1)}, {"local $x++", misfit(0)}, {"local ++$x", misfit(0)}, {"local -$x", misfit(0)}, {"local !$x", misfit(0)}, {`local \$x`, misfit(0)}, {"local f()", misfit(0)}, {"local $x->()", misfit(0)}, {"local $x[0](1)", misfit(0)}, {"local local $x", misfit(0)}, {"local my $x", misfit(0)}, {"local &x()", misfit(0)}, {"local &x", misfit(2)}, {"local sub {}", misfit(0)}, {"local qw(a)", misfit(0)}, {"local qw()", "(My local (List))"}, {"local ($x", misfit(3)}, {"local 1 = )", misfit(0)}, {"local ($x, 1)", misfit(0)}, {"local undef()", misfit(0)}, {"local ($x, undef())", misfit(0)},
	})
}

// P4.1: `my` and `our`, with parentheses and without.
func TestDeclarations(t *testing.T) {
	for _, w := range []string{"my", "our"} {
		for sigil, told := range map[string]string{"$": "$", "@": "@", "%": "%"} {
			hold(t, toldExpr, [][2]string{
				{w + " " + sigil + "x", "(My " + w + " " + told + "x)"}, {w + " (" + sigil + "x)", "(My " + w + " N=1 " + told + "x)"}, {w + "(" + sigil + "x, $y)", "(My " + w + " N=1 " + told + "x $y)"}, {w + " ($y, " + sigil + "if)", "(My " + w + " N=1 $y " + told + "if)"},
				{w + " " + sigil + "_", misfit(1)}, {w + " (" + sigil + "_)", misfit(2)}, {w + " " + sigil + "A::b", misfit(1)}, {w + " ($x, " + sigil + "A::b)", misfit(4)}, {w + " " + sigil + "abcdefghijkl", "(My " + w + " " + told + "abcdefghijkl)"}, {w + " " + sigil + "_x", "(My " + w + " " + told + "_x)"},
				{w + " " + sigil + "x[0]", misfit(2)}, {w + " " + sigil + "x{a}", misfit(2)}, {w + " " + sigil + "x(1)", misfit(2)}, {w + " " + sigil + "$x", misfit(1)}, {w + " (" + sigil + "x[0])", misfit(3)},
			})
		}
		hold(t, toldExpr, [][2]string{
			{w, misfit(1)}, {w + " ()", misfit(2)}, {w + " (", misfit(2)}, {w + " ($x", misfit(3)}, {w + " ($x,)", misfit(4)}, {w + " ($x => $y)", misfit(3)}, {w + " (,)", misfit(2)}, {w + " (($x))", misfit(2)}, {w + " ($x, 1)", misfit(4)}, {w + " 1", misfit(1)}, {w + " x", misfit(1)}, {w + " f()", misfit(1)}, {w + " &x", misfit(1)}, {w + " (&x)", misfit(2)}, {w + " $1", misfit(1)}, {w + " $@", misfit(1)}, {w + " $&", misfit(1)}, {w + " my $x", misfit(1)}, {w + " sub {}", misfit(1)},
			{w + " $x = 1", "(Assign (My " + w + " $x) 1)"}, {w + " ($x) = 1", "(Assign (My " + w + " N=1 $x) 1)"}, {w + " $x + 1", "(Bin + (My " + w + " $x) 1)"}, {w + " ($x)[0]", misfit(4)}, {w + " $x->{a}", "(Key (Deref % (My " + w + " $x)) 'a')"}, {w + " $x++", "(Inc x++ (My " + w + " $x))"}, {"(" + w + " $x, " + w + " ($y, @z)) = 1", "(Assign (List (My " + w + " $x) (My " + w + " N=1 $y @z)) 1)"},
		})
	}
}

// P4.1: how a `{` is meant decides what it begins.
func TestBraces(t *testing.T) {
	for _, c := range []struct {
		s    string
		open []int
		told string
	}{
		{"if (1) {}", []int{1}, "(If 1 (Block))"}, {"f({});", []int{3}, "(Expr (Call f (NewHash)))"}, {"$x{a};", []int{2}, "(Expr (Key %x 'a'))"}, {"$x = {};", []int{3}, "(Expr (Assign $x (NewHash)))"}, {"{}", []int{1}, "(Block)"}, {"sub {};", []int{1}, "(Expr (Sub (Block)))"}, {"@{$x};", []int{2}, "(Expr (Deref @ $x))"},
		{"return {};", []int{1}, misfit(1)}, {"f {};", []int{1}, misfit(1)}, {"$x {a};", []int{3}, misfit(1)}, {"f(){a};", []int{1}, misfit(3)}, {"$x or {};", []int{1}, misfit(2)}, {"$x x {};", []int{1}, misfit(2)}, {"1 {}", []int{3}, misfit(1)}, {"do 1 {}", []int{3}, misfit(1)}, {"f(1, {1; 2});", []int{3}, misfit(6)}, {"$x->{a} {b};", []int{2, 3}, misfit(5)}, {"$x = {}{a};", []int{3, 3}, misfit(4)}, {"$x->(1){a};", []int{1}, misfit(5)},
	} {
		l, _, e := lex.Lex(c.s)
		if e != api.OK {
			t.Errorf("Lex of %q: %d", c.s, e)
		}
		var open []int
		for _, x := range l {
			if x.Text == "{" {
				open = append(open, x.Open)
			}
		}
		if fmt.Sprint(open) != fmt.Sprint(c.open) {
			t.Errorf("Lex of %q: %v", c.s, open)
		}
		hold(t, told, [][2]string{{c.s, c.told}})
	}
}
