package show_test

import (
	"testing"

	"motley/api"
	"motley/show"
)

// sized returns a program of one text, which is printed in some bytes.
func sized(t *testing.T, bytes int) []api.Node {
	t.Helper()
	p := []api.Node{nd(api.NExpr, "", str(""))}
	s, _ := show.Print(p)
	p[0].L[0].S = long("a", bytes-len(s))
	return p
}

// P5.1, P5.2: texts of MaxSource bytes, and of one more.
func TestLargeTexts(t *testing.T) {
	p := sized(t, api.MaxSource)
	if s, e := show.Print(p); len(s) != api.MaxSource || e != api.OK {
		t.Errorf("Print: %d bytes, %d", len(s), e)
	}
	if l, e := show.Lines(p); e != api.OK || !equal(l, []int{1}) {
		t.Errorf("Lines: %v %d", l, e)
	}
	p = sized(t, api.MaxSource+1)
	if s, e := show.Print(p); s != "" || e != api.ErrLarge {
		t.Errorf("Print of one more: %d bytes, %d", len(s), e)
	}
	if l, e := show.Lines(p); len(l) != 0 || e != api.ErrLarge {
		t.Errorf("Lines of one more: %v %d", l, e)
	}
	if l, e := show.Differ(p, nil); e != api.OK || !equal(l, []int{0}) {
		t.Errorf("Differ: %v %d", l, e)
	}
	// The `;` and the end of the line are no part of the expression.
	for more, want := range map[int]api.Errno{0: api.OK, 1: api.OK, 2: api.OK, 3: api.ErrLarge} {
		s, e := show.Expr(sized(t, api.MaxSource+more), []int{0, 0})
		if e != want || e == api.OK && len(s) != api.MaxSource+more-2 || e != api.OK && s != "" {
			t.Errorf("Expr of %d bytes: %d, not %d", len(s), e, want)
		}
	}
	// An expression may have a text, though the program has none.
	p = append(sized(t, 3000), sized(t, 3000)...)
	if s, e := show.Expr(p, []int{1, 0}); len(s) != 2998 || e != api.OK {
		t.Errorf("Expr: %d bytes, %d", len(s), e)
	}
	if s, e := show.Expr(p, []int{2, 0}); s != "" || e != api.ErrNone {
		t.Errorf("Expr: %d bytes, %d", len(s), e)
	}
	if s, e := show.Expr(p, []int{1}); s != "" || e != api.ErrType {
		t.Errorf("Expr: %d bytes, %d", len(s), e)
	}
	// The text of a source may be longer than the source.
	source := long("-(1);", 130) + long(" ", 20)
	if s, e := show.Format(source); len(s) != 130*len("- 1;\n") || e != api.OK {
		t.Errorf("Format: %d bytes, %d", len(s), e)
	}
	for n, want := range map[int]api.Errno{1996: api.OK, 1997: api.ErrLarge} {
		// A tab takes two bytes in what is printed.
		source = `"$x` + long("\t", n) + `";`
		s, e := show.Format(source)
		if e != want || (s != "") != (e == api.OK) {
			t.Errorf("Format of %d: %d bytes, %d", n, len(s), e)
		}
		if is, e := show.IsFormatted(source); is || e != want {
			t.Errorf("IsFormatted of %d: %t %d", n, is, e)
		}
	}
}

// ask asks each function that takes a program for one, and returns the errors, with whether there was anything beside them.
func ask(p []api.Node, path []int) (map[string]api.Errno, bool) {
	all := map[string]api.Errno{}
	s, e := show.Print(p)
	all["Print"] = e
	t, e := show.Expr(p, path)
	all["Expr"] = e
	k, e := show.Lines(p)
	all["Lines"] = e
	l, e := show.Differ(p, nil)
	all["Differ"] = e
	m, e := show.Differ(nil, p)
	all["Differ (second)"] = e
	return all, s+t != "" || len(k)+len(l)+len(m) > 0
}

// P5.1, P5.2: programs that are not valid, before any other error.
func TestInvalidPrograms(t *testing.T) {
	tooLong := str(long("a", api.MaxSource+1))
	deep := sc("x")
	for range api.MaxNest {
		deep = nd(api.NNot, "", deep)
	}
	var many []api.Node
	for range api.MaxNodes + 1 {
		many = append(many, nd(api.NReturn, ""))
	}
	for _, c := range []struct {
		p []api.Node
		e api.Errno
	}{
		{[]api.Node{sc("x")}, api.ErrArg}, {[]api.Node{{}}, api.ErrArg}, {[]api.Node{nd(api.NExpr, "")}, api.ErrArg}, {[]api.Node{nd(api.NExpr, "", nd(api.NBin, "+", sc("x")))}, api.ErrArg}, {[]api.Node{nd(api.NExpr, "", nd(api.NBin, "?", tooLong, sc("x")))}, api.ErrArg},
		{[]api.Node{nd(api.NExpr, "", tooLong), nd(api.NIf, "")}, api.ErrArg}, {[]api.Node{nd(api.NExpr, "", str("\xff"))}, api.ErrArg}, {[]api.Node{nd(api.NExpr, "", nd(api.NIndex, ""))}, api.ErrArg}, {[]api.Node{nd(api.NExpr, "", nd(api.NMatch, "a"))}, api.ErrArg}, {[]api.Node{nd(api.NExpr, "", nd(api.NJoin, ""))}, api.ErrArg},
		{[]api.Node{nd(api.NExpr, "", nd(api.NInc, "x", sc("x")))}, api.ErrArg}, {[]api.Node{nd(api.NFor, "")}, api.ErrArg}, {[]api.Node{nd(api.NExpr, "", nd(api.NMethod, "f"))}, api.ErrArg}, {[]api.Node{nd(api.NExpr, "", nd(api.NSub, ""))}, api.ErrArg}, {[]api.Node{nd(api.NExpr, "", nd(api.NEach, "map", sc("x")))}, api.ErrArg},
		{many, api.ErrLarge}, {append(many, sc("x")), api.ErrLarge}, {[]api.Node{nd(api.NExpr, "", deep)}, api.ErrLarge},
	} {
		for _, path := range [][]int{nil, {0}, {0, 0}, {9}} {
			errors, more := ask(c.p, path)
			for name, e := range errors {
				if e != c.e {
					t.Errorf("%s of %.100v: %d, not %d", name, c.p, e, c.e)
				}
			}
			if more {
				t.Errorf("something beside the error of %.100v", c.p)
			}
		}
	}
	bad, large := []api.Node{sc("x")}, many
	if l, e := show.Differ(bad, large); len(l) != 0 || e != api.ErrArg {
		t.Errorf("Differ: %v %d", l, e)
	}
	if l, e := show.Differ(large, bad); len(l) != 0 || e != api.ErrLarge {
		t.Errorf("Differ: %v %d", l, e)
	}
	least := []api.Node{nd(api.NExpr, "", deep.L[0].L[0])}
	if s, e := show.Expr(least, []int{0, 0}); s != long("!(", api.MaxNest-3)+"!$x"+long(")", api.MaxNest-3) || e != api.OK {
		t.Errorf("Expr: %s %d", s, e)
	}
}

// P5.1, P5.2: nil and empty are the same.
func TestNilAndEmpty(t *testing.T) {
	empty := []api.Node{}
	for _, p := range [][]api.Node{nil, empty} {
		s, e := show.Print(p)
		if s != "" || e != api.OK {
			t.Errorf("Print: %q %d", s, e)
		}
		if l, e := show.Lines(p); len(l) != 0 || e != api.OK {
			t.Errorf("Lines: %v %d", l, e)
		}
		for _, q := range [][]api.Node{nil, empty} {
			if l, e := show.Differ(p, q); len(l) != 0 || e != api.OK {
				t.Errorf("Differ: %v %d", l, e)
			}
			for _, path := range [][]int{nil, {}} {
				if s, e := show.Expr(p, path); s != "" || e != api.ErrNone {
					t.Errorf("Expr: %q %d", s, e)
				}
			}
			one := func(l []api.Node) []api.Node {
				return []api.Node{nd(api.NExpr, "", api.Node{Op: api.NCall, S: "f", L: l}), {Op: api.NBlock, L: l}, {Op: api.NReturn, L: l}}
			}
			if l, e := show.Differ(one(p), one(q)); len(l) != 0 || e != api.OK {
				t.Errorf("Differ: %v %d", l, e)
			}
			if s, e := show.Print(one(p)); s != "f();\n{\n}\nreturn;\n" || e != api.OK {
				t.Errorf("Print: %q %d", s, e)
			}
		}
		if s, e := show.Inter(api.Node{Op: api.NStr, S: "a", L: p}); s != "a" || e != api.OK {
			t.Errorf("Inter: %q %d", s, e)
		}
		if s, e := show.Inter(join(api.Node{Op: api.NScalar, S: "a", L: p})); s != "${a}" || e != api.OK {
			t.Errorf("Inter: %q %d", s, e)
		}
	}
}
