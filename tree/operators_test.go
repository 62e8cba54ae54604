package tree_test

import (
	"fmt"
	"testing"
)

// An operator between two operands, its level (more binds more), what its node is called, and whether there is no second one on its level.
type operator struct {
	text  string
	level int
	told  string
	once  bool
}

func operators() []operator {
	l := []operator{{"or", 0, "Logic ||", false}, {"and", 1, "Logic &&", false}}
	for level, row := range []struct {
		name  string
		texts []string
		once  bool
	}{
		{"Bin", []string{".."}, true},
		{"Logic", []string{"||", "//"}, false},
		{"Logic", []string{"&&"}, false},
		{"Bin", []string{"&", "|", "^"}, false},
		{"Bin", []string{"==", "!=", "<=>", "eq", "ne", "cmp"}, true},
		{"Bin", []string{"<", ">", "<=", ">=", "lt", "gt", "le", "ge"}, true},
		{"Bin", []string{"+", "-", "."}, false},
		{"Bin", []string{"*", "/", "%", "x"}, false},
	} {
		for _, s := range row.texts {
			l = append(l, operator{s, 2 + level, row.name + " " + s, row.once})
		}
	}
	return l
}

var updates = []string{"+=", "-=", "*=", "/=", "%=", ".=", "||=", "&&=", "//="}

// P4.1: each operator alone, and each pair of them by their levels.
func TestLevels(t *testing.T) {
	for _, o := range operators() {
		hold(t, toldExpr, [][2]string{
			{"$a " + o.text + " $b", "(" + o.told + " $a $b)"},
			{"$a " + o.text, misfit(2)},
			{"$a " + o.text + " )", misfit(2)},
			{"f($a, 1) " + o.text + " ($b)", "(" + o.told + " (Call f $a 1) $b)"},
		})
		for _, u := range operators() {
			s := fmt.Sprintf("$a %s $b %s $c", o.text, u.text)
			want := fmt.Sprintf("(%s (%s $a $b) $c)", u.told, o.told)
			switch {
			case o.level < u.level:
				want = fmt.Sprintf("(%s $a (%s $b $c))", o.told, u.told)
			case o.level == u.level && o.once:
				want = misfit(3)
			}
			hold(t, toldExpr, [][2]string{{s, want}})
		}
	}
}

// P4.1: assignments are grouped from the right, and stand between `and` and conditions.
func TestLevelsOfAssignments(t *testing.T) {
	signs := append([]string{"="}, updates...)
	name := func(sign string) string {
		if sign == "=" {
			return "Assign"
		}
		return "Update " + sign
	}
	for _, a := range signs {
		hold(t, toldExpr, [][2]string{
			{"$a " + a + " 1", "(" + name(a) + " $a 1)"}, {"$a " + a, misfit(2)}, {"$a " + a + " not 1", misfit(2)},
			{"$a " + a + " 1 ? 2 : 3", "(" + name(a) + " $a (Cond 1 2 3))"},
			{"1 ? $a " + a + " 2 : 3", "(Cond 1 (" + name(a) + " $a 2) 3)"},
			{"1 ? 2 : $a " + a + " 3", "(Cond 1 2 (" + name(a) + " $a 3))"},
			{"(1 ? $a : $b) " + a + " 3", misfit(7)},
			{"$a " + a + " -$b", "(" + name(a) + " $a (Neg $b))"},
			{"not $a " + a + " 1", "(Not (" + name(a) + " $a 1))"},
			{"!$a " + a + " 1", misfit(2)}, {"-$a " + a + " 1", misfit(2)}, {`\$a ` + a + " 1", misfit(2)}, {"$a++ " + a + " 1", misfit(2)}, {"$a =~ /b/ " + a + " 1", misfit(3)},
		})
		for _, b := range signs {
			hold(t, toldExpr, [][2]string{{fmt.Sprintf("$a %s $b %s $c", a, b), fmt.Sprintf("(%s $a (%s $b $c))", name(a), name(b))}})
		}
		for _, o := range operators() {
			left, right := fmt.Sprintf("$a %s $b %s $c", o.text, a), fmt.Sprintf("$a %s $b %s $c", a, o.text)
			wantLeft, wantRight := misfit(3), fmt.Sprintf("(%s $a (%s $b $c))", name(a), o.told)
			if o.level < 2 {
				wantLeft = fmt.Sprintf("(%s $a (%s $b $c))", o.told, name(a))
				wantRight = fmt.Sprintf("(%s (%s $a $b) $c)", o.told, name(a))
			}
			hold(t, toldExpr, [][2]string{{left, wantLeft}, {right, wantRight}})
		}
	}
}

// P4.1: conditions, and what binds more and less.
func TestConditions(t *testing.T) {
	hold(t, toldExpr, [][2]string{
		{"1 ? 2 : 3", "(Cond 1 2 3)"}, {"1 ? 2 : 3 ? 4 : 5", "(Cond 1 2 (Cond 3 4 5))"}, {"1 ? 2 ? 3 : 4 : 5", "(Cond 1 (Cond 2 3 4) 5)"}, {"(1 ? 2 : 3) ? 4 : 5", "(Cond (Cond 1 2 3) 4 5)"},
		{"1 ? (2, 3) : ()", "(Cond 1 (List 2 3) (List))"},
		{"1 ? 2", misfit(3)}, {"1 ?", misfit(2)}, {"1 ? 2 :", misfit(4)}, {"1 ? : 3", misfit(2)}, {"1 ? 2 3", misfit(3)}, {"1 ? 2, 3 : 4", misfit(3)}, {"1 ? 2 or 3 : 4", misfit(3)}, {"1 : 2", misfit(1)}, {"1 ? not 2 : 3", misfit(2)},
		{"1 ? 2 : 3 or 4", "(Logic || (Cond 1 2 3) 4)"},
	})
	for _, o := range operators() {
		if o.level < 2 {
			continue
		}
		hold(t, toldExpr, [][2]string{
			{"$a " + o.text + " $b ? 1 : 2", "(Cond (" + o.told + " $a $b) 1 2)"},
			{"1 ? 2 : $a " + o.text + " $b", "(Cond 1 2 (" + o.told + " $a $b))"},
			{"1 ? $a " + o.text + " $b : 2", "(Cond 1 (" + o.told + " $a $b) 2)"},
		})
	}
}

// P4.1: operators before one operand, and `++` and `--` on both sides.
func TestUnary(t *testing.T) {
	hold(t, toldExpr, [][2]string{
		{"-1", "(Neg 1)"}, {"!1", "(Not 1)"}, {`\1`, "(Ref 1)"}, {"- - 1", "(Neg (Neg 1))"}, {"!!1", "(Not (Not 1))"}, {`\\1`, "(Ref (Ref 1))"}, {`-!\1`, "(Neg (Not (Ref 1)))"}, {`\!-1`, "(Ref (Not (Neg 1)))"},
		{`\(1, 2)`, "(Ref (List 1 2))"}, {`\my $x`, "(Ref (My my $x))"}, {`\f()`, "(Ref (Call f))"}, {"-$x->[0]", "(Neg (Index (Deref @ $x) 0))"},
		{"-", misfit(1)}, {"!", misfit(1)}, {`\`, misfit(1)}, {"- not 1", misfit(1)}, {"-)", misfit(1)}, {"+1", misfit(0)}, {"1 + + 2", misfit(2)},
		{"not 1", "(Not 1)"}, {"not not 1", "(Not (Not 1))"}, {"not !1", "(Not (Not 1))"}, {"not", misfit(1)}, {"not 1 and 2", "(Logic && (Not 1) 2)"}, {"1 and not 2", "(Logic && 1 (Not 2))"}, {"1 or not 2 or 3", "(Logic || (Logic || 1 (Not 2)) 3)"}, {"1 + not 2", misfit(2)}, {"!not 1", misfit(1)}, {"(not 1)", misfit(1)}, {"not 1, 2", misfit(2)},
		{"$x++", "(Inc x++ $x)"}, {"$x--", "(Inc x-- $x)"}, {"++$x", "(Inc ++x $x)"}, {"--$x", "(Inc --x $x)"}, {"-$x++", "(Neg (Inc x++ $x))"}, {"- --$x", "(Neg (Inc --x $x))"}, {"!++$x", "(Not (Inc ++x $x))"}, {"$x++ + ++$y", "(Bin + (Inc x++ $x) (Inc ++x $y))"}, {"($x)++", "(Inc x++ $x)"}, {"++($x)", "(Inc ++x $x)"},
		{"$x++ ++", misfit(2)}, {"$x++ --", misfit(2)}, {"++$x++", misfit(0)}, {"++ ++$x", misfit(0)}, {"++-$x", misfit(0)}, {"--!$x", misfit(0)}, {`++\$x`, misfit(0)}, {"++", misfit(1)}, {"++)", misfit(1)}, {"1 + ++2", misfit(2)}, {"-$x ++ 1", misfit(3)}, {"$x++[0]", misfit(2)}, {"$x++->[0]", misfit(2)},
	})
	for _, o := range operators() {
		if o.level < 2 {
			continue
		}
		for sign, told := range map[string]string{"-": "Neg", "!": "Not", `\`: "Ref"} {
			hold(t, toldExpr, [][2]string{
				{sign + "$a " + o.text + " $b", "(" + o.told + " (" + told + " $a) $b)"},
				{"$a " + o.text + " " + sign + "$b", "(" + o.told + " $a (" + told + " $b))"},
			})
		}
		hold(t, toldExpr, [][2]string{
			{"not $a " + o.text + " $b", "(Not (" + o.told + " $a $b))"},
			{"$a++ " + o.text + " ++$b", "(" + o.told + " (Inc x++ $a) (Inc ++x $b))"},
		})
	}
}

// P4.1: what is bound to patterns, and patterns alone.
func TestBinding(t *testing.T) {
	hold(t, toldExpr, [][2]string{
		{"/a/", "(Match a $_)"}, {"m{a/b}xg", "(Match a/b T=xg $_)"}, {"s/a/b/", "(Subst a $_ 'b')"}, {"s/a/b$1/imsxg", "(Subst a T=imsxg $_ (Join 'b' $1))"}, {"tr/a/b/", "(Trans a T=b $_ '')"}, {"tr/a//cdr", "(Trans a $_ 'cdr')"}, {"//", "(Match $_)"}, {"s(a){}", "(Subst a $_ '')"}, {`s/a/\n\//`, "(Subst a $_ '\n/')"},
		{"$x =~ /a/", "(Match a $x)"}, {"$x =~ m(a)g", "(Match a T=g $x)"}, {"$x =~ s/a/b/g", "(Subst a T=g $x 'b')"}, {"$x =~ s/a/$y/", "(Subst a $x (Join $y))"}, {"$x =~ tr/a-z/A-Z/r", "(Trans a-z T=A-Z $x 'r')"}, {"$_ =~ /a/", "(Match a $_)"},
		{"$x !~ /a/i", "(Not (Match a T=i $x))"}, {"$x !~ s/a/b/", "(Not (Subst a $x 'b'))"}, {"$x !~ tr/a/b/", "(Not (Trans a T=b $x ''))"},
		{"-$x =~ /a/", "(Match a (Neg $x))"}, {"!$x =~ /a/", "(Match a (Not $x))"}, {"$x++ =~ /a/", "(Match a (Inc x++ $x))"}, {"f() =~ /a/", "(Match a (Call f))"}, {"(1, 2) =~ /a/", "(Match a (List 1 2))"}, {"my $x =~ /a/", "(Match a (My my $x))"}, {"($x = 1) =~ s/a/b/", "(Subst a (Assign $x 1) 'b')"}, {"/a/ =~ /b/", "(Match b (Match a $_))"},
		{"$x . $y =~ /a/", "(Bin . $x (Match a $y))"}, {"$x =~ /a/ . $y", "(Bin . (Match a $x) $y)"}, {"$x =~ /a/ x 2", "(Bin x (Match a $x) 2)"}, {"2 * $x !~ /a/", "(Bin * 2 (Not (Match a $x)))"},
		{"$x =~ $y", misfit(2)}, {"$x =~ 'a'", misfit(2)}, {`$x =~ "a"`, misfit(2)}, {"$x =~ qw(a)", misfit(2)}, {"$x =~ (/a/)", misfit(2)}, {"$x =~", misfit(2)}, {"$x =~ -/a/", misfit(2)}, {"=~ /a/", misfit(0)}, {"$x =~ /a/ =~ /b/", misfit(3)}, {"$x !~ /a/ =~ /b/", misfit(3)}, {"$x =~ /a/->n", misfit(3)}, {"$x =~ /a/ /b/", misfit(5)}, {"$x = ~/a/", "error 2 at 5"},
		{"/a/->n", "(Method n (Match a $_))"}, {"/a/i->n", "(Method n (Match a T=i $_))"},
	})
}
