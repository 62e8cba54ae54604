package tree_test

import (
	"math"
	"strings"
	"testing"

	"motley/api"
	"motley/lex"
	"motley/tree"
)

// P4.1: the errors of lex.Lex come first, with their second result.
func TestErrorsOfSources(t *testing.T) {
	for _, s := range []string{
		long(" ", api.MaxSource+1), "f(" + long("'", api.MaxSource), long(";", api.MaxTokens+1), long("(", api.MaxTokens+1), long(";", api.MaxTokens) + "\xff", ") '", ") \xff", "(1 + `", "1 'a'", "f(abcdefghijklm)", "$x $y", "\x00", "1 = 2; '", "<<E",
	} {
		_, place, want := lex.Lex(s)
		if want == api.OK {
			t.Fatalf("Lex of %.20q: no error", s)
		}
		if p, n, e := tree.Parse(s); len(p) != 0 || n != place || e != want {
			t.Errorf("Parse of %.20q: %d %d %d, not %d at %d", s, len(p), n, e, want, place)
		}
		if x, n, e := tree.ParseExpr(s); tell(x) != "()" || n != place || e != want {
			t.Errorf("ParseExpr of %.20q: %s %d %d, not %d at %d", s, tell(x), n, e, want, place)
		}
	}
}

// P4.1: with an error there is no program.
func TestNothingBesideErrors(t *testing.T) {
	for _, s := range []string{"f(1); }", "1; 2; 3", "f(1); pop(1);"} {
		if p, n, e := tree.Parse(s); len(p) != 0 || n == 0 || e != api.ErrSyntax {
			t.Errorf("Parse of %q: %s %d %d", s, tellAll(p), n, e)
		}
		if x, n, e := tree.ParseExpr(s); tell(x) != "()" || n == 0 || e != api.ErrSyntax {
			t.Errorf("ParseExpr of %q: %s %d %d", s, tell(x), n, e)
		}
	}
}

// P4.1: MaxNodes nodes, and one more; a token that does not fit comes first.
func TestMostNodes(t *testing.T) {
	// A statement of a number is two nodes, a block alone one.
	most := long("1;", api.MaxNodes/2)
	p, n, e := tree.Parse(most)
	if len(p) != api.MaxNodes/2 || n != api.MaxNodes || e != api.OK {
		t.Errorf("Parse of %d nodes: %d %d %d", api.MaxNodes, len(p), n, e)
	}
	if nodes, nest, e := tree.Counts(p); nodes != api.MaxNodes || nest != 2 || e != api.OK {
		t.Errorf("Counts: %d %d %d", nodes, nest, e)
	}
	for _, s := range []string{most + "{}", most + "1;", long("{}", api.MaxNodes+1), most + most} {
		if p, n, e := tree.Parse(s); len(p) != 0 || n != 0 || e != api.ErrLarge {
			t.Errorf("Parse of more nodes: %d %d %d", len(p), n, e)
		}
	}
	if p, n, e := tree.Parse(most + "{} )"); len(p) != 0 || n != api.MaxNodes+2 || e != api.ErrSyntax {
		t.Errorf("Parse of more nodes and a misfit: %d %d %d", len(p), n, e)
	}
	list := func(n int) string { return "(" + long("1,", n-1) + ")" }
	if x, n, e := tree.ParseExpr(list(api.MaxNodes)); len(x.L) != api.MaxNodes-1 || n != 2*api.MaxNodes || e != api.OK {
		t.Errorf("ParseExpr of %d nodes: %d %d %d", api.MaxNodes, len(x.L), n, e)
	}
	if x, n, e := tree.ParseExpr(list(api.MaxNodes + 1)); tell(x) != "()" || n != 0 || e != api.ErrLarge {
		t.Errorf("ParseExpr of more nodes: %d %d %d", len(x.L), n, e)
	}
	if x, n, e := tree.ParseExpr(list(api.MaxNodes+1) + ";"); tell(x) != "()" || n != 2*api.MaxNodes+2 || e != api.ErrSyntax {
		t.Errorf("ParseExpr of more nodes and a misfit: %d %d %d", len(x.L), n, e)
	}
	// The parts of a text are nodes, too.
	if _, _, e := tree.ParseExpr(`"` + long("$x-", (api.MaxNodes-1)/2) + `"`); e != api.OK {
		t.Errorf("ParseExpr of a text of %d parts: %d", api.MaxNodes-1, e)
	}
	if _, _, e := tree.ParseExpr(`"` + long("$x-", api.MaxNodes/2) + `"`); e != api.ErrLarge {
		t.Errorf("ParseExpr of a text of %d parts: %d", api.MaxNodes, e)
	}
}

// P4.1: MaxNest nodes in each other, and one more.
func TestMostNest(t *testing.T) {
	for _, c := range [][3]string{{"[", "]", ""}, {"- ", "", "1"}, {"f(", ")", ""}, {`\`, "", "$x"}, {"(1, ", ")", "1"}, {"", "->n", "A"}, {"", " + 1", "1"}} {
		// What stands in the middle is a node itself, if there is something.
		deep := api.MaxNest
		if c[2] != "" {
			deep--
		}
		for more := range 2 {
			s := long(c[0], deep+more) + c[2] + long(c[1], deep+more)
			x, n, e := tree.ParseExpr(s)
			if more == 0 && (e != api.OK || n == 0) || more == 1 && (e != api.ErrLarge || n != 0 || tell(x) != "()") {
				t.Errorf("ParseExpr of %s: %s %d %d", s, tell(x), n, e)
			}
			p, n, e := tree.Parse(long(c[0], deep-1+more) + c[2] + long(c[1], deep-1+more) + ";")
			if more == 0 && (e != api.OK || n == 0) || more == 1 && (e != api.ErrLarge || n != 0 || len(p) != 0) {
				t.Errorf("Parse of %s likewise: %s %d %d", s, tellAll(p), n, e)
			}
		}
	}
	blocks := func(n int) string { return long("{", n) + long("}", n) }
	p, n, e := tree.Parse(blocks(api.MaxNest))
	if nodes, nest, f := tree.Counts(p); n != 2*api.MaxNest || e != api.OK || nodes != api.MaxNest || nest != api.MaxNest || f != api.OK {
		t.Errorf("Parse of blocks: %d %d, %d %d %d", n, e, nodes, nest, f)
	}
	if p, n, e := tree.Parse(blocks(api.MaxNest + 1)); len(p) != 0 || n != 0 || e != api.ErrLarge {
		t.Errorf("Parse of one block more: %d %d %d", len(p), n, e)
	}
	if p, n, e := tree.Parse(blocks(api.MaxNest+1) + "}"); len(p) != 0 || n != 2*api.MaxNest+2 || e != api.ErrSyntax {
		t.Errorf("Parse of one block more and a misfit: %d %d %d", len(p), n, e)
	}
	// Parentheses are no nodes.
	hold(t, toldExpr, [][2]string{{long("(", 400) + "1" + long(")", 400), "1"}})
}

// P4.2: of a program that is too large, and wrong as well, it is the first that is told.
func TestLargeBeforeWrong(t *testing.T) {
	wrong := api.Node{Op: -1}
	var many []api.Node
	for range api.MaxNodes {
		many = append(many, wrong)
	}
	deep := []api.Node{wrong}
	for range api.MaxNest - 1 {
		deep = []api.Node{{Op: -1, L: deep}}
	}
	for _, p := range [][]api.Node{many, deep} {
		if e := tree.Validate(p); e != api.ErrArg {
			t.Errorf("Validate of the most: %d", e)
		}
	}
	deeper := []api.Node{{Op: -1, L: deep}}
	for range 1000 {
		deeper = []api.Node{{Op: api.NBlock, L: deeper}}
	}
	for _, p := range [][]api.Node{append(many, wrong), {{Op: -1, L: deep}}, {{Op: -1, L: many}}, deeper} {
		if e := tree.Validate(p); e != api.ErrLarge {
			t.Errorf("Validate of more: %d", e)
		}
		for name, e := range errorsOf(p, []int{math.MaxInt}) {
			if e != api.ErrLarge {
				t.Errorf("%s of more: %d", name, e)
			}
		}
	}
	if e := tree.Validate(nil); e != api.OK {
		t.Errorf("Validate of nothing: %d", e)
	}
}

// errorsOf are the errors of the functions that take programs.
func errorsOf(p []api.Node, path []int) map[string]api.Errno {
	l := map[string]api.Errno{}
	var n, nest int
	n, nest, l["Counts"] = tree.Counts(p)
	subs, e := tree.Subs(p)
	l["Subs"] = e
	names, e := tree.Names(p)
	l["Names"] = e
	x, is, e := tree.At(p, path)
	l["At"] = e
	q, e := tree.Replace(p, path, api.Node{Op: -1})
	l["Replace"] = e
	if n != 0 || nest != 0 || len(subs) != 0 || len(names) != 0 || is || tell(x) != "()" || len(q) != 0 {
		l["a result beside an error"] = -1
	}
	return l
}

// P4.2 (R2): functions with a program return the errors of Validate first.
func TestErrorsOfPrograms(t *testing.T) {
	for _, p := range [][]api.Node{{{Op: -1}}, {{Op: api.NNum}}, {{}}, {{Op: api.NExpr}}, {{Op: api.NBlock}, {Op: api.NBlock, S: "a"}}} {
		if e := tree.Validate(p); e != api.ErrArg {
			t.Errorf("Validate of %s: %d", tellAll(p), e)
		}
		for _, path := range [][]int{nil, {0}, {9}, {-1}} {
			for name, e := range errorsOf(p, path) {
				if e != api.ErrArg {
					t.Errorf("%s of %s: %d", name, tellAll(p), e)
				}
			}
		}
	}
}

// P1
func TestNothingPanics(t *testing.T) {
	texts := []string{"", "a", "$", "$x", "${", "${x", "$x[", "$x{", "@", "@{", `\`, `\x`, `\x{`, "{", "}", "(", ")", "[", "]", "::", "a::", "&", "&x", "%", "sub", "sub {", "my", "my (", "local", "for", "for my", "for my &x", "print", "print(", "L:", "a =>", "=>", "-", "1 ?", "=~", "s/a/b/", "\xff", long("(", 1000), long("[", 1000), long("{", 1000), long("-", 1000), long("!", 4000), long("1+", 500), long("$x->", 333), long("a=>", 333), long("$$", 500), long("sub {", 333), long("@{", 500), long("if(", 400), long("my(", 333), long("++ ", 900), long("f(", 500), long("\\", 1000), long("$x{", 300), long("not ", 900), long("$x=", 330), long("1?", 500), strings.ToUpper(long("ab:", 300))}
	for _, s := range texts {
		tree.Inter(s)
		tree.IsName(s)
		tree.Arity(s)
		for _, u := range texts {
			tree.Parse(s + " " + u)
			tree.ParseExpr(s + u)
		}
	}
	ints := []int{math.MinInt, -1, 0, 1, 2, math.MaxInt}
	for op := -1; op <= 52; op++ {
		for _, s := range texts[:40] {
			for _, n := range ints {
				for count := range 4 {
					x := api.Node{Op: op, S: s, T: s, N: n}
					for i := range count {
						x.L = append(x.L, api.Node{Op: op + i - 1, S: s, N: n})
					}
					p := []api.Node{x, {Op: api.NExpr, L: []api.Node{x}}}
					tree.Validate(p)
					tree.Counts(p)
					tree.Subs(p)
					tree.Names(p)
					tree.At(p, ints)
					tree.Replace(p, ints, x)
					tree.Replace(nil, nil, x)
					tree.Copy(p)
					tree.Same(p, p[1:])
				}
			}
		}
	}
	// Nodes in themselves: these are more in each other than any limit.
	round := []api.Node{{Op: api.NBlock}}
	round[0].L = round
	for name, e := range errorsOf(round, []int{0}) {
		if e != api.ErrLarge {
			t.Errorf("%s of a block in itself: %d", name, e)
		}
	}
	if q, e := tree.Replace([]api.Node{{Op: api.NBlock}}, []int{0}, round[0]); len(q) != 0 || e != api.ErrLarge {
		t.Errorf("Replace by a block in itself: %d", e)
	}
}
