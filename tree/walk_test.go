package tree_test

import (
	"fmt"
	"math"
	"math/rand"
	"slices"
	"strings"
	"testing"

	"motley/api"
	"motley/tree"
)

// program is the program of a source that has no error.
func program(t *testing.T, s string) []api.Node {
	t.Helper()
	p, _, e := tree.Parse(s)
	if e != api.OK {
		t.Fatalf("Parse of %q: %d", s, e)
	}
	return p
}

// P4.2: Counts.
func TestCounts(t *testing.T) {
	for _, c := range []struct {
		s       string
		n, nest int
	}{
		{"", 0, 0}, {";", 0, 0}, {"{}", 1, 1}, {"{} {}", 2, 1}, {"1;", 2, 2}, {"1; 2;", 4, 2}, {"f(1, 2);", 4, 3}, {"{} 1;", 3, 2}, {"1 + 2 * 3;", 6, 4}, {"$x[1];", 4, 3}, {"sub f { { 1; } }", 5, 5}, {"if (1) { 2; } else {}", 6, 4}, {`"a$x[0]";`, 6, 4}, {"/a/;", 3, 3}, {"1 unless 2;", 6, 4}, {"for (1) {} package A; last;", 6, 3},
	} {
		if n, nest, e := tree.Counts(program(t, c.s)); n != c.n || nest != c.nest || e != api.OK {
			t.Errorf("Counts of %q: %d %d %d", c.s, n, nest, e)
		}
	}
	if n, nest, e := tree.Counts([]api.Node{}); n != 0 || nest != 0 || e != api.OK {
		t.Errorf("Counts of nothing: %d %d %d", n, nest, e)
	}
}

// P4.2: Subs and Names are sets.
func TestNames(t *testing.T) {
	for _, c := range []struct{ s, subs, names string }{
		{"", "", ""}, {"1;", "", ""},
		{"sub f {}", "f", ""}, {"sub b {} sub a {} sub b {}", "a b", ""}, {"sub f { sub g {} { sub A::h {} } } f(g());", "A::h f g", ""}, {"my $f = sub { sub h {} };", "h", "$f"}, {"if (1) { sub _ {} } package A; sub Z {}", "Z _", ""}, {"f(); sub {}; $x->m1; g->h;", "", "$x"},
		{"$x; @x; %x;", "", "$x %x @x"}, {"$x; $x; $x + $x;", "", "$x"}, {"$b; $a; @a; %B; $_; @_; $1; $&; $@; $A::b;", "", "$& $1 $@ $A::b $_ $a $b %B @_ @a"},
		{"$x[0]; $y{a}; @z[1]; @w{'a'};", "", "%w %y @x @z"}, {"$$x[0]; @{$y}; %$z; ${$w}{a}; $v->[0]; $u->{a};", "", "$u $v $w $x $y $z"}, {"&x(1); &$y(2);", "", "$x $y"},
		{"my $x; our @y; local %z; my ($a, @b);", "", "$a $x %z @b @y"}, {"for my $x (1) {}", "", "$x"}, {"for (1) {}", "", ""}, {"for my $x ($y) { $z; }", "", "$x $y $z"}, {"{ L: for my $if () {} }", "", "$if"},
		{"/a/; $x =~ /$y/; s/a/$z/; tr/a/b/;", "", "$_ $x $z"}, {`"$x $y[0] $z{a} @w $v[$i] ${u} \$t";`, "", "$i $u $x %z @v @w @y"}, {"'$x'; qw($y @z);", "", ""},
		{"sub f { return $x; } sort { $a <=> $b; } (@c);", "f", "$a $b $x @c"}, {"push(@x, 1); delete($y{a}); shift();", "", "%y @x"}, {"$x{$y}[$z];", "", "$y $z %x"},
	} {
		p := program(t, c.s)
		if subs, e := tree.Subs(p); strings.Join(subs, " ") != c.subs || e != api.OK {
			t.Errorf("Subs of %q: %q %d", c.s, subs, e)
		}
		if names, e := tree.Names(p); strings.Join(names, " ") != c.names || e != api.OK {
			t.Errorf("Names of %q: %q %d", c.s, names, e)
		}
	}
}

// P4.2: At goes along a path.
func TestAt(t *testing.T) {
	p := program(t, "1; if ($x) { f(2, 'a'); } else { }")
	for _, c := range []struct {
		path []int
		told string
	}{
		{[]int{0}, "(Expr 1)"}, {[]int{0, 0}, "1"}, {[]int{1}, tell(p[1])}, {[]int{1, 0}, "$x"}, {[]int{1, 1}, "(Block (Expr (Call f 2 'a')))"}, {[]int{1, 1, 0, 0}, "(Call f 2 'a')"}, {[]int{1, 1, 0, 0, 1}, "'a'"}, {[]int{1, 2}, "(Block)"},
	} {
		if x, is, e := tree.At(p, c.path); tell(x) != c.told || !is || e != api.OK {
			t.Errorf("At %v: %s %t %d", c.path, tell(x), is, e)
		}
	}
	for _, path := range nowhere {
		if x, is, e := tree.At(p, path); tell(x) != "()" || is || e != api.ErrNone {
			t.Errorf("At %v: %s %t %d", path, tell(x), is, e)
		}
		if q, e := tree.Replace(p, path, api.Node{Op: -1}); len(q) != 0 || e != api.ErrNone {
			t.Errorf("Replace at %v: %s %d", path, tellAll(q), e)
		}
	}
	for _, path := range [][]int{nil, {0}, {-1}} {
		if x, is, e := tree.At(nil, path); tell(x) != "()" || is || e != api.ErrNone {
			t.Errorf("At %v of nothing: %s %t %d", path, tell(x), is, e)
		}
		if q, e := tree.Replace(nil, path, api.Node{Op: api.NBlock}); len(q) != 0 || e != api.ErrNone {
			t.Errorf("Replace at %v of nothing: %s %d", path, tellAll(q), e)
		}
	}
}

// nowhere are paths that lead nowhere in the program of TestAt.
var nowhere = [][]int{nil, {}, {-1}, {2}, {0, 1}, {0, -1}, {0, 0, 0}, {1, 3}, {1, 2, 0}, {1, 1, 1}, {1, 1, 0, 0, 2}, {1, 1, 0, 0, 1, 0}, {math.MinInt}, {math.MaxInt}, {1, math.MaxInt, 0}, {0, 0, math.MinInt, 1}, {-1, 0}}

// P4.2: Replace puts a node at the end of a path, and the result must be valid.
func TestReplace(t *testing.T) {
	s := "1; if ($x) { f(2, 'a'); } $y = 3;"
	for _, c := range []struct {
		path []int
		n    api.Node
		told string
	}{
		{[]int{0}, nd(api.NBlock, ""), "(Block) (If $x (Block (Expr (Call f 2 'a')))) (Expr (Assign $y 3))"},
		{[]int{0, 0}, nd(api.NStr, "b"), "(Expr 'b') (If $x (Block (Expr (Call f 2 'a')))) (Expr (Assign $y 3))"},
		{[]int{1, 0}, nd(api.NNot, "", nd(api.NScalar, "z")), "(Expr 1) (If (Not $z) (Block (Expr (Call f 2 'a')))) (Expr (Assign $y 3))"},
		{[]int{1, 1, 0, 0, 0}, nd(api.NList, ""), "(Expr 1) (If $x (Block (Expr (Call f (List) 'a')))) (Expr (Assign $y 3))"},
		{[]int{2, 0, 0}, nd(api.NArray, "z"), "(Expr 1) (If $x (Block (Expr (Call f 2 'a')))) (Expr (Assign @z 3))"},
		{[]int{0}, nd(api.NNum, ""), ""}, {[]int{0, 0}, nd(api.NBlock, ""), ""}, {[]int{1, 1}, nd(api.NNum, ""), ""}, {[]int{1, 0}, nd(api.NExpr, "", nd(api.NNum, "")), ""}, {[]int{2, 0, 0}, nd(api.NNum, ""), ""}, {[]int{2, 0, 1}, api.Node{}, ""}, {[]int{1, 1}, api.Node{Op: api.NBlock, T: "L"}, ""}, {[]int{0, 0}, nd(api.NScalar, "a b"), ""}, {[]int{1, 1, 0, 0}, nd(api.NCall, "if"), ""},
	} {
		p := program(t, s)
		q, e := tree.Replace(p, c.path, c.n)
		want := api.OK
		if c.told == "" {
			want = api.ErrArg
		}
		if strings.TrimPrefix(tellAll(q), " ") != c.told || e != want {
			t.Errorf("Replace at %v by %s: %s %d", c.path, tell(c.n), tellAll(q), e)
		}
		if !tree.Same(p, program(t, s)) {
			t.Errorf("Replace at %v by %s changed the program: %s", c.path, tell(c.n), tellAll(p))
		}
	}
	// What would be too large is so before it is wrong.
	p := program(t, long("1;", api.MaxNodes/2))
	if q, e := tree.Replace(p, []int{0, 0}, nd(api.NNeg, "", nd(api.NNum, ""))); len(q) != 0 || e != api.ErrLarge {
		t.Errorf("Replace by one more: %d %d", len(q), e)
	}
	if q, e := tree.Replace(p, []int{0, 0}, nd(-1, "", nd(-1, ""))); len(q) != 0 || e != api.ErrLarge {
		t.Errorf("Replace by one more that is wrong: %d %d", len(q), e)
	}
	if q, e := tree.Replace(p, []int{0, 0}, nd(-1, "")); len(q) != 0 || e != api.ErrArg {
		t.Errorf("Replace by one that is wrong: %d %d", len(q), e)
	}
	if q, e := tree.Replace(p, []int{0}, nd(api.NBlock, "", nd(api.NBlock, ""))); len(q) != api.MaxNodes/2 || e != api.OK {
		t.Errorf("Replace by as many: %d %d", len(q), e)
	}
	p = program(t, long("{", api.MaxNest-2)+"1;"+long("}", api.MaxNest-2))
	path := make([]int, api.MaxNest)
	if q, e := tree.Replace(p, path, nd(api.NNeg, "", nd(api.NNum, ""))); len(q) != 0 || e != api.ErrLarge {
		t.Errorf("Replace by one deeper: %d %d", len(q), e)
	}
	if q, e := tree.Replace(p, path, nd(api.NStr, "a")); len(q) != 1 || e != api.OK {
		t.Errorf("Replace by one as deep: %d %d", len(q), e)
	}
}

// P4.2: for each node, At gives it, and Replace by it changes nothing.
func TestAtAndReplaceEverywhere(t *testing.T) {
	m := maker{rand.New(rand.NewSource(42))}
	for range 60 {
		p := m.statements(5, 3)
		if tree.Validate(p) != api.OK {
			continue
		}
		var look func(l []api.Node, path []int)
		look = func(l []api.Node, path []int) {
			for i, x := range l {
				at := append(slices.Clone(path), i)
				if y, is, e := tree.At(p, at); !tree.Same([]api.Node{x}, []api.Node{y}) || !is || e != api.OK {
					t.Fatalf("At %v of %s: %s %t %d", at, tellAll(p), tell(y), is, e)
				}
				if q, e := tree.Replace(p, at, x); !tree.Same(p, q) || e != api.OK {
					t.Fatalf("Replace at %v of %s: %s %d", at, tellAll(p), tellAll(q), e)
				}
				look(x.L, at)
			}
		}
		look(p, nil)
	}
}

// spoil changes all that is in nodes.
func spoil(l []api.Node) {
	for i := range l {
		spoil(l[i].L)
		l[i].Op, l[i].S, l[i].T, l[i].N = -7, "spoilt", "spoilt", -7
	}
	l = append(l[:0], slices.Repeat([]api.Node{{Op: -7}}, cap(l))...)
	_ = l
}

// R5: results are new memory.
func TestNewMemory(t *testing.T) {
	const s = "my ($x) = f(1, [2]); if ($x) { $x[0] =~ s/a/b$y/; }"
	p, want := program(t, s), program(t, s)
	q := tree.Copy(p)
	if !tree.Same(p, q) || !tree.Same(q, p) {
		t.Errorf("Copy: %s", tellAll(q))
	}
	spoil(q)
	if !tree.Same(p, want) {
		t.Errorf("Copy shares memory: %s", tellAll(p))
	}
	x, _, _ := tree.At(p, []int{1})
	spoil([]api.Node{x})
	if !tree.Same(p, want) {
		t.Errorf("At shares memory: %s", tellAll(p))
	}
	n := nd(api.NNewArr, "", nd(api.NNum, ""), nd(api.NNewArr, "", nd(api.NScalar, "z")))
	q, e := tree.Replace(p, []int{0, 0, 1}, n)
	if e != api.OK {
		t.Fatalf("Replace: %d", e)
	}
	again := tree.Copy(q)
	spoil(n.L)
	if !tree.Same(q, again) {
		t.Errorf("Replace shares memory with the node: %s", tellAll(q))
	}
	spoil(q)
	if !tree.Same(p, want) {
		t.Errorf("Replace shares memory with the program: %s", tellAll(p))
	}
	// Replace of a program by a part of itself.
	if q, e = tree.Replace(p, []int{1, 1}, p[1].L[1]); e != api.OK {
		t.Fatalf("Replace by a part of itself: %d", e)
	}
	spoil(q)
	if !tree.Same(p, want) {
		t.Errorf("Replace shares memory with the program: %s", tellAll(p))
	}
	a, b := program(t, s), program(t, s)
	spoil(a)
	if !tree.Same(b, want) {
		t.Errorf("Parse shares memory: %s", tellAll(b))
	}
}

// R5: no two parts of one result share memory.
func TestPartsOfResults(t *testing.T) {
	for _, s := range []string{"$x[0][1]->(1)(2)->n(3); @$y[1]; &$f(1); f(1) if $x; until ($x) {} for my $i (1, 2) {} my ($a, $b) = @_; $x =~ s/a/$b/; [1, {a => 2}]; map { $_; } (1); -(1, 2) . \"$x[$i]\";"} {
		p := program(t, s)
		want := tellAll(p)
		var look func(l []api.Node)
		look = func(l []api.Node) {
			for i := range l {
				look(l[i].L)
				whole := l[i].L
				l[i].L = append(l[i].L, api.Node{Op: -7})
				l[i].L = whole
			}
		}
		look(p)
		if tellAll(p) != want {
			t.Errorf("parts of %q share memory: %s", s, tellAll(p))
		}
	}
}

// P4.2: Copy and Same are for any nodes; nil and empty are the same (R4).
func TestCopyAndSame(t *testing.T) {
	empty := api.Node{Op: -5, S: "\xff", T: "\x00", N: math.MinInt, L: []api.Node{}}
	lists := [][]api.Node{
		nil, {{}}, {{}, {}}, {{Op: 1}}, {{S: "a"}}, {{T: "a"}}, {{N: 1}}, {{L: []api.Node{{}}}}, {{L: []api.Node{{}, {}}}}, {{L: []api.Node{{S: "a"}}}}, {{L: []api.Node{{L: []api.Node{{}}}}}}, {empty}, {empty, {}}, {{S: "a"}, {}}, {{}, {S: "a"}},
	}
	for i, p := range lists {
		for k, q := range lists {
			if tree.Same(p, q) != (i == k) {
				t.Errorf("Same of %s and %s: %t", tellAll(p), tellAll(q), tree.Same(p, q))
			}
		}
		if q := tree.Copy(p); !tree.Same(p, q) || len(q) != len(p) {
			t.Errorf("Copy of %s: %s", tellAll(p), tellAll(q))
		}
	}
	if !tree.Same(nil, []api.Node{}) || !tree.Same([]api.Node{{}}, []api.Node{{L: []api.Node{}}}) || len(tree.Copy([]api.Node{})) != 0 {
		t.Error("nil and empty are not the same")
	}
	if e := tree.Validate([]api.Node{{Op: api.NBlock, L: []api.Node{}}, {Op: api.NExpr, L: []api.Node{{Op: api.NList, L: []api.Node{}}}}}); e != api.OK {
		t.Errorf("Validate of empty lists: %d", e)
	}
	deep := []api.Node{}
	for i := range 10000 {
		deep = []api.Node{{S: fmt.Sprint(i), L: deep}}
	}
	if !tree.Same(deep, tree.Copy(deep)) {
		t.Error("Copy of deep nodes")
	}
}
