package tree_test

import (
	"strings"
	"testing"

	"motley/api"
	"motley/tree"
)

// arities is how many arguments the functions of the language take, as the chapter lists it.
const arities = "`print` n, `push` 1 to n, `unshift` 1 to n, `pop` 1, `shift` 0 or 1, `keys` 1, `values` 1, `delete` 1, `exists` 1, `defined` 1, `scalar` 1, `wantarray` 0, `join` 1 to n, `split` 2, `reverse` n, `length` 1, `substr` 2 or 3, `index` 2, `uc` 1, `lc` 1, `ord` 1, `chr` 1, `ref` 1, `bless` 2, `die` n, `weaken` 1, `tie` 2 to n, `untie` 1, `input` 0, `guard` 1, `tainted` 1, `abs` 1, `undef` 0 or 1, `evaluate` 1"

// arity is the least and the greatest number of arguments (-1: any number).
type arity struct {
	name        string
	least, most int
}

func listedArities() []arity {
	var l []arity
	for _, s := range strings.Split(arities, ", ") {
		name, count, _ := strings.Cut(strings.TrimPrefix(s, "`"), "` ")
		a := arity{name: name}
		switch count {
		case "n":
			a.most = -1
		case "1 to n":
			a.least, a.most = 1, -1
		case "2 to n":
			a.least, a.most = 2, -1
		case "0 or 1":
			a.most = 1
		case "2 or 3":
			a.least, a.most = 2, 3
		default:
			a.least = int(count[0] - '0')
			a.most = a.least
		}
		l = append(l, a)
	}
	return l
}

func functionNames() []string {
	var l []string
	for _, a := range listedArities() {
		l = append(l, a.name)
	}
	return l
}

// P4.2: Arity.
func TestArity(t *testing.T) {
	l := listedArities()
	if len(l) != 34 {
		t.Fatalf("%d functions", len(l))
	}
	for _, a := range l {
		if least, most, is := tree.Arity(a.name); least != a.least || most != a.most || !is {
			t.Errorf("Arity of %s: %d %d %t", a.name, least, most, is)
		}
	}
	for _, name := range append([]string{"", "f", "Print", "print ", "prin", "prints", "$x", "scalars"}, grammarWords...) {
		if least, most, is := tree.Arity(name); least != 0 || most != 0 || is {
			t.Errorf("Arity of %q: %d %d %t", name, least, most, is)
		}
	}
}

// firsts has what the first argument of a function may be, by the kinds of operands; functions that are not named take all.
func firsts(name string) string {
	switch name {
	case "push", "unshift", "pop", "shift":
		return "array"
	case "keys", "values":
		return "hash"
	case "delete", "exists":
		return "element"
	case "weaken", "tie", "untie":
		return "scalar element"
	case "undef":
		return "array hash scalar element"
	case "split":
		return "match"
	}
	return "array hash scalar element match slice other"
}

// operands are expressions by what they are as a first argument.
var operands = map[string][]string{
	"array":   {"@x", "@_", "@A::b", "@$x", "@{$x}", "@{f()}", "(@x)"},
	"hash":    {"%x", "%_", "%$x", "%{$x}", "(%x)"},
	"scalar":  {"$x", "$_", "$1", "$@", "$$x", "${f()}", "($x)"},
	"element": {"$x[0]", "$x{a}", "$$x[0]", "$$x{a}", "$x->[0]", "$x->{a}", "$x[0]{a}", "($x[0])"},
	"match":   {"/a/", "$x =~ /a/", "m(a)x", "(/a/)"},
	"slice":   {"@x[0]", "@x{'a'}", "@$x[0]", "@{$x}{'a'}"},
	"other":   {"1", "'a'", `"a$x"`, "my $x", "my @x", "our %x", "my ($x)", "local $x", "(1, 2)", "(@x,)", "()", "[1]", "\\@x", "\\$x", "-$x", "!$x", "$x++", "$x = 1", "@x = 1", "$x . 1", "f()", "$x->n", "$x->()", "&x()", "sub {}", "do {}", "s/a/b/", "tr/a/b/", "$x !~ /a/", "qw(a)", "qw(a b)", "pop(@x)", "a => 1", "1 ? $x : $y", "$x || $y", "map {} (1)", "Foo->n", "undef()"},
}

// calls are the calls of a function with from no to six arguments, of which the first one is given.
func calls(name, first string) []string {
	l := []string{name + "()", name + "(" + first + ")"}
	for n := 2; n <= 6; n++ {
		l = append(l, name+"("+first+long(", 1", n-1)+")")
	}
	return l
}

// P4.1: how many arguments a function takes, and of which kind the first one is.
func TestArguments(t *testing.T) {
	for _, a := range listedArities() {
		kinds := strings.Fields(firsts(a.name))
		for kind, list := range operands {
			takes := strings.Contains(" "+strings.Join(kinds, " ")+" ", " "+kind+" ")
			for _, first := range list {
				for n, s := range calls(a.name, first) {
					x, _, e := tree.ParseExpr(s)
					count := n
					if n > 0 && first == "a => 1" {
						count++
					}
					right := count >= a.least && (count <= a.most || a.most < 0) && (count == 0 || takes)
					if right && (e != api.OK || x.Op != api.NFunc || x.S != a.name || len(x.L) != count) {
						t.Errorf("%s: %s %d", s, tell(x), e)
					}
					if !right && toldExpr(s) != misfit(1) {
						t.Errorf("%s: %s", s, toldExpr(s))
					}
				}
			}
		}
	}
}

// P4.1: what stands in the place of arguments.
func TestArgumentLists(t *testing.T) {
	hold(t, toldExpr, [][2]string{
		{"print()", "(Func print)"}, {"print(1,)", "(Func print 1)"}, {"print(1 => 2,)", "(Func print 1 2)"}, {"print((1, 2), 3)", "(Func print (List 1 2) 3)"}, {"print(qw(a b))", "(Func print (List 'a' 'b'))"},
		{"print(,)", misfit(2)}, {"print(1 2)", misfit(3)}, {"print(1,,2)", misfit(4)}, {"print(1 =>)", misfit(4)}, {"print(1", misfit(3)}, {"print(", misfit(2)}, {"print(not 1)", misfit(2)}, {"print(1 or 2)", misfit(3)}, {"print", misfit(1)}, {"print 1", misfit(1)}, {"print->n", misfit(1)}, {"print;", misfit(1)}, {"print + 1", misfit(1)}, {"print{a}", misfit(1)},
		{"pop(@x,)", "(Func pop @x)"}, {"pop((@x,))", misfit(1)}, {"length((1, 2))", "(Func length (List 1 2))"}, {"shift(())", misfit(1)},
		// The list is read first; an inner call is wrong before an outer one.
		{"pop(1, 2", misfit(5)}, {"pop(1 2)", misfit(3)}, {"pop(pop(1))", misfit(3)}, {"print(1, pop())", misfit(5)}, {"pop(1) +", misfit(1)}, {"1 + pop(1)", misfit(3)},
		{"split(/a/, 1)", "(Func split (Match a $_) 1)"}, {"split(m(,)x, $x)", "(Func split (Match , T=x $_) $x)"}, {"tie($x, 'A', 1, 2)", "(Func tie $x 'A' 1 2)"}, {"substr($x, 1, 2)", "(Func substr $x 1 2)"},
	})
}
