package tree_test

import (
	"math"
	"strings"
	"testing"

	"motley/api"
	"motley/tree"
)

// shapes has for each operation which of S, T and N its nodes have, and how many parts at least and at most (-1: any number), with a source in which it stands first.
var shapes = map[int]struct {
	fields      string
	least, most int
	s           string
}{
	api.NNum: {"N", 0, 0, "1;"}, api.NStr: {"S", 0, 0, "'a';"}, api.NJoin: {"", 1, -1, `"a$x";`}, api.NMy: {"SN", 1, 1, "my $x;"},
	api.NScalar: {"S", 0, 0, "$x;"}, api.NArray: {"S", 0, 0, "@x;"}, api.NHash: {"S", 0, 0, "%x;"},
	api.NIndex: {"", 2, 2, "$x[1];"}, api.NKey: {"", 2, 2, "$x{a};"}, api.NSlice: {"", 2, 2, "@x[1];"}, api.NKeys: {"", 2, 2, "@x{1};"},
	api.NDeref: {"S", 1, 1, "@$x;"}, api.NRef: {"", 1, 1, `\$x;`}, api.NList: {"", 0, -1, "(1, 2);"}, api.NNewArr: {"", 0, -1, "[1];"}, api.NNewHash: {"", 0, -1, "({1, 2});"},
	api.NSub: {"", 1, 1, "sub {};"}, api.NCall: {"S", 0, -1, "f(1);"}, api.NCallRef: {"", 1, -1, "$x->();"}, api.NMethod: {"S", 1, -1, "$x->n;"}, api.NFunc: {"S", 1, 1, "length($x);"},
	api.NNeg: {"", 1, 1, "-1;"}, api.NNot: {"", 1, 1, "!1;"}, api.NBin: {"S", 2, 2, "1 + 2;"}, api.NLogic: {"S", 2, 2, "1 || 2;"}, api.NCond: {"", 3, 3, "1 ? 2 : 3;"},
	api.NAssign: {"", 2, 2, "$x = 1;"}, api.NUpdate: {"S", 2, 2, "$x += 1;"}, api.NInc: {"S", 1, 1, "$x++;"},
	api.NMatch: {"ST", 1, 1, "/a/i;"}, api.NSubst: {"ST", 2, 2, "s/a/b/i;"}, api.NTrans: {"ST", 2, 2, "tr/a/b/c;"}, api.NEach: {"S", 2, 2, "map {} (1);"}, api.NDo: {"", 1, 1, "do {};"}, api.NEval: {"", 1, 1, "eval {};"},
	api.NExpr: {"", 1, 1, "1;"}, api.NIf: {"", 2, -1, "if (1) {}"}, api.NWhile: {"T", 2, 2, "L: while (1) {}"}, api.NFor: {"STN", 2, 2, "L: for my $x (1) {}"}, api.NBlock: {"T", 0, -1, "L: {}"},
	api.NDefine: {"S", 1, 1, "sub f {}"}, api.NPackage: {"S", 0, 0, "package A;"}, api.NReturn: {"", 0, 1, "return 1;"}, api.NLeave: {"ST", 0, 0, "last L;"}, api.NPhase: {"S", 1, 1, "BEGIN {}"},
}

// P4.1: what is not named is empty or 0, there is no part too many and none too few, and none of another kind.
func TestShapes(t *testing.T) {
	if len(shapes) != 45 {
		t.Fatalf("%d operations", len(shapes))
	}
	number, statement := api.Node{Op: api.NNum}, nd(api.NPackage, "A")
	for op, shape := range shapes {
		p := program(t, shape.s)
		n := &p[0]
		if op < api.NExpr {
			n = &p[0].L[0]
		}
		if n.Op != op || tree.Validate(p) != api.OK {
			t.Fatalf("%s: %s %d", shape.s, tellAll(p), tree.Validate(p))
		}
		was := *n
		wrong := func(what string, want api.Errno) {
			t.Helper()
			if e := tree.Validate(p); e != want {
				t.Errorf("%s with %s: %s %d", shape.s, what, tellAll(p), e)
			}
			*n = was
		}
		right := func(is bool) api.Errno {
			if is {
				return api.OK
			}
			return api.ErrArg
		}
		if !strings.Contains(shape.fields, "S") {
			n.S = "a"
			wrong("an S", api.ErrArg)
		}
		if !strings.Contains(shape.fields, "T") {
			n.T = "a"
			wrong("a T", api.ErrArg)
		}
		for _, i := range []int{1, -1, 2, math.MinInt} {
			if !strings.Contains(shape.fields, "N") {
				n.N = i
				wrong("an N", api.ErrArg)
			}
		}
		part := number
		if op == api.NBlock {
			part = statement
		}
		n.L = append(append([]api.Node{}, was.L...), part)
		wrong("a part more", right(shape.most < 0 && op != api.NJoin && op != api.NIf))
		n.L = append(append([]api.Node{}, was.L...), nd(api.NStr, "b"), nd(api.NBlock, ""))
		wrong("parts more of other kinds", right(op == api.NIf))
		for i := range was.L {
			n.L = append(append([]api.Node{}, was.L[:i]...), was.L[i+1:]...)
			// Without its variable, a text is no join.
			wrong("a part fewer", right(shape.least < len(was.L) && !(op == api.NJoin && i == 1)))
			for _, other := range []api.Node{{}, {Op: -1}, {Op: 36}, {Op: 50}, statement, nd(api.NBlock, "", number), {Op: api.NBlock, T: "L"}, {Op: api.NBlock, S: "a"}, {Op: api.NBlock, N: 1}} {
				n.L = append([]api.Node{}, was.L...)
				n.L[i] = other
				wrong("another part", api.ErrArg)
			}
		}
		for other := range shapes {
			if (other < api.NExpr) != (op < api.NExpr) {
				n.Op = other
				wrong("a statement and an expression exchanged", api.ErrArg)
			}
		}
		for _, other := range []int{0, -1, 36, 39, 50, math.MinInt, math.MaxInt} {
			n.Op = other
			wrong("an operation that is none", api.ErrArg)
		}
	}
}

// holdValid holds Validate of expressions against what it should be.
func holdValid(t *testing.T, want api.Errno, l ...api.Node) {
	t.Helper()
	for _, x := range l {
		for _, p := range [][]api.Node{{nd(api.NExpr, "", x)}, {nd(api.NReturn, "", nd(api.NNewArr, "", x, x))}, {nd(api.NIf, "", x, nd(api.NBlock, "", nd(api.NExpr, "", x)))}} {
			if e := tree.Validate(p); e != want {
				t.Errorf("Validate of %s: %d", tellAll(p), e)
			}
		}
	}
}

func with(n api.Node, t string, number int) api.Node {
	n.T, n.N = t, number
	return n
}

// P4.1: what is in the fields of nodes.
func TestFields(t *testing.T) {
	x, y, array, hash, one := nd(api.NScalar, "x"), nd(api.NScalar, "y"), nd(api.NArray, "x"), nd(api.NHash, "x"), api.Node{Op: api.NNum, N: 1}
	str := func(s string) api.Node { return nd(api.NStr, s) }
	list := func(l ...api.Node) api.Node { return nd(api.NList, "", l...) }
	number := func(n int) api.Node { return api.Node{Op: api.NNum, N: n} }
	holdValid(t, api.OK, number(0), number(1), number(999999999999999))
	holdValid(t, api.ErrArg, number(-1), number(1000000000000000), number(math.MaxInt), number(math.MinInt))
	holdValid(t, api.OK, str(""), str("a"), str("\x00\n\x7f"), str("ä€\U0010ffff"), str(long("a", api.MaxText)), str(long("ä", api.MaxText/2)))
	holdValid(t, api.ErrArg, str("\xff"), str("a\xc3"), str("\xed\xa0\x80"), str("\xc0\x80"), str("\xf4\x90\x80\x80"), str(long("a", api.MaxText+1)))
	for _, name := range []string{"x", "_", "if", "print", "A::b", "abcdefghijkl", "_1"} {
		holdValid(t, api.OK, nd(api.NScalar, name), nd(api.NArray, name), nd(api.NHash, name))
	}
	for _, name := range []string{"@", "&", "1", "2", "3", "4", "5", "6", "7", "8", "9"} {
		holdValid(t, api.OK, nd(api.NScalar, name))
		holdValid(t, api.ErrArg, nd(api.NArray, name), nd(api.NHash, name), nd(api.NMy, "my", nd(api.NScalar, name)))
	}
	for _, name := range []string{"", "0", "10", "$", "%", "a b", "1a", "$x", "a::", "::a", "abcdefghijklm", "ä", "@&", "-", "a\n"} {
		holdValid(t, api.ErrArg, nd(api.NScalar, name), nd(api.NArray, name), nd(api.NHash, name), nd(api.NCall, name), nd(api.NMethod, name, x), nd(api.NMy, "my", nd(api.NScalar, name)))
	}
	for _, name := range append(functionNames(), grammarWords...) {
		holdValid(t, api.ErrArg, nd(api.NCall, name, one), nd(api.NMethod, name, x))
		holdValid(t, api.OK, nd(api.NMy, "our", nd(api.NArray, name)), nd(api.NKey, "", hash, str(name)))
	}
	// my, our and local.
	for _, w := range []string{"my", "our"} {
		holdValid(t, api.OK, nd(api.NMy, w, x), nd(api.NMy, w, array), nd(api.NMy, w, hash), with(nd(api.NMy, w, x), "", 1), with(nd(api.NMy, w, x, array, hash, x), "", 1))
		holdValid(t, api.ErrArg, nd(api.NMy, w), nd(api.NMy, w, x, y), with(nd(api.NMy, w), "", 1), with(nd(api.NMy, w, x), "", 2), with(nd(api.NMy, w, x), "", -1), with(nd(api.NMy, w, x, one), "", 1), nd(api.NMy, w, one), nd(api.NMy, w, list(x)), nd(api.NMy, w, nd(api.NIndex, "", array, one)), nd(api.NMy, w, nd(api.NDeref, "$", x)), nd(api.NMy, w, nd(api.NScalar, "_")), nd(api.NMy, w, nd(api.NArray, "A::b")), with(nd(api.NMy, w, x, nd(api.NHash, "_")), "", 1), nd(api.NMy, w, nd(api.NMy, w, x)))
	}
	holdValid(t, api.OK, nd(api.NMy, "local", x), nd(api.NMy, "local", nd(api.NScalar, "1")), nd(api.NMy, "local", array), nd(api.NMy, "local", nd(api.NIndex, "", array, one)), nd(api.NMy, "local", nd(api.NKeys, "", hash, list(one))), nd(api.NMy, "local", list()), nd(api.NMy, "local", list(x)), nd(api.NMy, "local", list(x, hash)))
	holdValid(t, api.ErrArg, nd(api.NMy, "local"), nd(api.NMy, "local", x, y), with(nd(api.NMy, "local", x), "", 1), with(nd(api.NMy, "local", list(x)), "", 1), nd(api.NMy, "local", one), nd(api.NMy, "local", nd(api.NDeref, "$", x)), nd(api.NMy, "local", list(x, one)), nd(api.NMy, "local", nd(api.NMy, "my", x)), nd(api.NMy, "", x), nd(api.NMy, "state", x), nd(api.NMy, "my ", x))
	// Containers.
	deref := func(sigil string) api.Node { return nd(api.NDeref, sigil, x) }
	holdValid(t, api.OK, nd(api.NIndex, "", array, x), nd(api.NIndex, "", deref("@"), list()), nd(api.NKey, "", hash, str("a b")), nd(api.NKey, "", deref("%"), one), nd(api.NSlice, "", array, list()), nd(api.NSlice, "", deref("@"), list(one)), nd(api.NKeys, "", hash, list()), nd(api.NKeys, "", deref("%"), list(one, x)))
	for _, container := range []api.Node{x, one, deref("$"), nd(api.NMy, "my", array), list(array), nd(api.NNewArr, "")} {
		holdValid(t, api.ErrArg, nd(api.NIndex, "", container, one), nd(api.NKey, "", container, one), nd(api.NSlice, "", container, list(one)), nd(api.NKeys, "", container, list(one)))
	}
	holdValid(t, api.ErrArg, nd(api.NIndex, "", hash, one), nd(api.NIndex, "", deref("%"), one), nd(api.NKey, "", array, one), nd(api.NKey, "", deref("@"), one), nd(api.NSlice, "", hash, list(one)), nd(api.NKeys, "", array, list(one)), nd(api.NSlice, "", array, one), nd(api.NKeys, "", hash, x), nd(api.NSlice, "", array, nd(api.NNewArr, "")), nd(api.NIndex, "", nd(api.NArray, "1"), one), nd(api.NKey, "", nd(api.NHash, "@"), one))
	holdValid(t, api.OK, deref("$"), deref("@"), deref("%"), nd(api.NDeref, "@", list()))
	holdValid(t, api.ErrArg, deref("&"), deref(""), deref("$$"), deref("x"))
	// Operators.
	for _, o := range operators() {
		name := strings.Fields(o.told)
		op, other := api.NBin, api.NLogic
		if name[0] == "Logic" {
			op, other = api.NLogic, api.NBin
		}
		holdValid(t, api.OK, nd(op, name[1], x, y))
		holdValid(t, api.ErrArg, nd(other, name[1], x, y), nd(op, name[1]+"=", x, y, x), nd(api.NUpdate, name[1], x, y), nd(api.NInc, name[1], x))
	}
	for _, s := range append([]string{"", "or", "and", "not", "=", "=~", "!~", "->", ",", "=>", "!", "**", "<<", "...", "xx", "X"}, updates...) {
		holdValid(t, api.ErrArg, nd(api.NBin, s, x, y), nd(api.NLogic, s, x, y))
	}
	for _, s := range updates {
		holdValid(t, api.OK, nd(api.NUpdate, s, x, y))
	}
	for _, s := range []string{"", "=", "==", "+", "x=", "|=", "&=", "^=", "**=", "+= ", "||", "<=", "=+"} {
		holdValid(t, api.ErrArg, nd(api.NUpdate, s, x, y))
	}
	for _, s := range []string{"++x", "x++", "--x", "x--"} {
		holdValid(t, api.OK, nd(api.NInc, s, x))
		holdValid(t, api.ErrArg, nd(api.NInc, s, one), nd(api.NInc, s, array), nd(api.NInc, s, list(x)), nd(api.NInc, s, nd(api.NInc, s, x)))
	}
	for _, s := range []string{"", "++", "--", "x", "+x", "x+", "x+-", "++y", "y++", "++x++", "xx++"} {
		holdValid(t, api.ErrArg, nd(api.NInc, s, x))
	}
	// Parts of texts.
	join := func(l ...api.Node) api.Node { return nd(api.NJoin, "", l...) }
	index := func(place api.Node) api.Node { return nd(api.NIndex, "", array, place) }
	key := func(of api.Node) api.Node { return nd(api.NKey, "", hash, of) }
	for _, n := range []api.Node{x, array, nd(api.NScalar, "1"), nd(api.NScalar, "@"), index(one), index(x), index(number(999999999999999)), index(nd(api.NScalar, "_")), key(str("a")), key(str("if")), key(str("A::b"))} {
		holdValid(t, api.OK, join(n), join(str("a"), n), join(n, str("[0]")), join(n, n), join(str("a"), n, str("b"), n, n))
		holdValid(t, api.ErrArg, join(n, str("")), join(str(""), n), join(str("a"), str("b"), n), join(n, str("a"), str("b")), join(n, str("\xff")))
	}
	for _, n := range []api.Node{hash, one, list(x), deref("$"), deref("@"), index(number(-1)), index(number(1000000000000000)), index(nd(api.NScalar, "1")), index(nd(api.NScalar, "@")), index(nd(api.NNeg, "", one)), index(str("1")), index(index(one)), nd(api.NIndex, "", deref("@"), one), key(str("a b")), key(str("")), key(str("1")), key(x), key(one), key(str("abcdefghijklm")), nd(api.NKey, "", deref("%"), str("a")), nd(api.NSlice, "", array, list(one)), nd(api.NMy, "my", x), join(x), nd(api.NCall, "f"), nd(api.NNot, "", x)} {
		holdValid(t, api.ErrArg, join(n), join(str("a"), n), join(x, n))
	}
	holdValid(t, api.ErrArg, join(), join(str("a")), join(str("")))
}

// P4.1: the fields of patterns, replacements and transliterations.
func TestFieldsOfPatterns(t *testing.T) {
	x, array, empty := nd(api.NScalar, "x"), nd(api.NArray, "x"), nd(api.NStr, "")
	match := func(s, flags string) api.Node { return with(nd(api.NMatch, s, x), flags, 0) }
	subst := func(s, flags string) api.Node { return with(nd(api.NSubst, s, x, empty), flags, 0) }
	trans := func(s, to, flags string) api.Node {
		return with(nd(api.NTrans, s, x, nd(api.NStr, flags)), to, 0)
	}
	for _, s := range []string{"", "a", "/", "a/b", `\\`, `\\/`, `\.`, `a\ `, "\t\n ~", `\\\\`, `\"\'`, "$x", "(", "[", `\` + "\n"} {
		holdValid(t, api.OK, match(s, ""), subst(s, ""), trans(s, s, ""))
	}
	for _, s := range []string{`\`, `a\`, `\/`, `a\/b`, `\\\`, `\\\/`, `\.\/`} {
		holdValid(t, api.ErrArg, match(s, ""), subst(s, ""))
		holdValid(t, api.OK, trans(s, s, ""))
	}
	for _, s := range []string{"\x00", "\r", "\v", "\x1f", "\x7f", "ä", "\xff", "a\x00"} {
		holdValid(t, api.ErrArg, match(s, ""), subst(s, ""), trans(s, "", ""), trans("", s, ""))
	}
	for mask := range 1 << 5 {
		flags, turned := "", ""
		for i := range 5 {
			if mask>>i&1 == 1 {
				flags += "imsxg"[i : i+1]
				turned = "imsxg"[i:i+1] + turned
			}
		}
		holdValid(t, api.OK, match("a", flags), subst("a", flags))
		if turned != flags {
			holdValid(t, api.ErrArg, match("a", turned), subst("a", turned))
		}
	}
	for _, flags := range []string{"c", "d", "r", "cd", "cr", "dr", "cdr"} {
		holdValid(t, api.OK, trans("a", "b", flags))
		holdValid(t, api.ErrArg, match("a", flags), subst("a", flags), trans("a", "b", flags+flags), trans("a", "b", flags+" "))
	}
	holdValid(t, api.ErrArg, match("a", "ii"), match("a", "a"), match("a", "I"), match("a", "i "), match("a", " "), subst("a", "gg"), subst("a", "e"), subst("a", "r"), trans("a", "b", "dc"), trans("a", "b", "rd"), trans("a", "b", "i"), trans("a", "b", "x"))
	holdValid(t, api.ErrArg, with(match("a", ""), "", 1), with(subst("a", ""), "", 1), with(trans("a", "b", ""), "b", 1))
	holdValid(t, api.OK, nd(api.NSubst, "a", x, nd(api.NJoin, "", x)), nd(api.NSubst, "a", x, nd(api.NStr, "\x00ä")), nd(api.NMatch, "a", nd(api.NList, "")), nd(api.NTrans, "a", array, empty))
	holdValid(t, api.ErrArg, nd(api.NSubst, "a", x, x), nd(api.NSubst, "a", x, api.Node{Op: api.NNum}), nd(api.NSubst, "a", x, nd(api.NJoin, "")), nd(api.NSubst, "a", x, nd(api.NStr, "\xff")), nd(api.NSubst, "a", x), nd(api.NTrans, "a", x), nd(api.NTrans, "a", x, x), nd(api.NTrans, "a", x, nd(api.NJoin, "", x)), nd(api.NTrans, "a", x, nd(api.NNum, "")), nd(api.NMatch, "a"), nd(api.NMatch, "a", x, x))
}

// P4.1: what stands left, and arguments of functions, as in sources.
func TestValidPlaces(t *testing.T) {
	one := api.Node{Op: api.NNum, N: 1}
	is := func(is bool) api.Errno {
		if is {
			return api.OK
		}
		return api.ErrArg
	}
	for _, c := range places {
		x, _, e := tree.ParseExpr(c.s)
		if e != api.OK {
			t.Fatalf("ParseExpr of %q: %d", c.s, e)
		}
		holdValid(t, is(c.assigned), nd(api.NAssign, "", x, one))
		holdValid(t, is(c.updated), nd(api.NUpdate, "+=", x, one), nd(api.NUpdate, "||=", x, one), nd(api.NInc, "x++", x), nd(api.NInc, "--x", x))
		holdValid(t, is(c.locals), nd(api.NMy, "local", x))
	}
	for _, a := range listedArities() {
		kinds := firsts(a.name)
		for kind, l := range operands {
			takes := strings.Contains(" "+kinds+" ", " "+kind+" ")
			for _, s := range l {
				if s == "a => 1" {
					continue
				}
				x, _, _ := tree.ParseExpr(s)
				n := nd(api.NFunc, a.name)
				for count := range 5 {
					holdValid(t, is(count >= a.least && (count <= a.most || a.most < 0) && (count == 0 || takes)), n)
					if count == 0 {
						n.L = []api.Node{x}
					} else {
						n.L = append(n.L, one)
					}
				}
			}
		}
	}
	for _, name := range append([]string{"", "f", "Print", "prints", "A::b"}, grammarWords...) {
		holdValid(t, api.ErrArg, nd(api.NFunc, name), nd(api.NFunc, name, one), nd(api.NFunc, name, one, one))
	}
}

// P4.1: statements.
func TestFieldsOfStatements(t *testing.T) {
	one, block := api.Node{Op: api.NNum, N: 1}, nd(api.NBlock, "")
	list := nd(api.NList, "", one)
	loop := func(name string, own int, label string) api.Node {
		return api.Node{Op: api.NFor, S: name, N: own, T: label, L: []api.Node{list, block}}
	}
	holdAll := func(want api.Errno, l ...api.Node) {
		t.Helper()
		for _, n := range l {
			for _, p := range [][]api.Node{{n}, {nd(api.NBlock, "", n)}, {n, n}, {nd(api.NExpr, "", nd(api.NSub, "", nd(api.NBlock, "", n)))}} {
				if e := tree.Validate(p); e != want {
					t.Errorf("Validate of %s: %d", tellAll(p), e)
				}
			}
		}
	}
	holdAll(api.OK, loop("_", 0, ""), loop("x", 1, ""), loop("x", 1, "L"), loop("_", 0, "L"), loop("if", 1, ""), loop("abcdefghijkl", 1, ""))
	holdAll(api.ErrArg, loop("", 0, ""), loop("x", 0, ""), loop("_", 1, ""), loop("A::b", 1, ""), loop("1", 1, ""), loop("@", 1, ""), loop("", 1, ""), loop("x", 2, ""), loop("x", -1, ""), loop("_", -1, ""), loop("$x", 1, ""), loop("abcdefghijklm", 1, ""), loop("x", 1, "if"), loop("x", 1, "a b"))
	for _, name := range []string{"f", "_", "A::b", "abcdefghijkl", "If"} {
		holdAll(api.OK, nd(api.NDefine, name, block), nd(api.NPackage, name), with(nd(api.NLeave, "last"), name, 0), with(nd(api.NWhile, "", one, block), name, 0), with(block, name, 0))
	}
	for _, name := range append(append(functionNames(), grammarWords...), "1", "a b", "$x", "a::", "abcdefghijklm", " ", "ä") {
		holdAll(api.ErrArg, nd(api.NDefine, name, block), nd(api.NPackage, name), with(nd(api.NLeave, "last"), name, 0), with(nd(api.NWhile, "", one, block), name, 0), with(block, name, 0), loop("x", 1, name))
	}
	holdAll(api.ErrArg, nd(api.NDefine, "", block), nd(api.NPackage, ""))
	holdAll(api.OK, nd(api.NLeave, "last"), nd(api.NLeave, "next"), nd(api.NPhase, "BEGIN", block), nd(api.NPhase, "END", block))
	for _, s := range []string{"", "redo", "return", "Last", "BEGIN", "INIT", "begin"} {
		holdAll(api.ErrArg, nd(api.NLeave, s))
	}
	for _, s := range []string{"", "INIT", "begin", "last", "BEGIN "} {
		holdAll(api.ErrArg, nd(api.NPhase, s, block))
	}
	labelled := api.Node{Op: api.NBlock, T: "L"}
	holdAll(api.OK, nd(api.NIf, "", one, block), nd(api.NIf, "", one, block, block), nd(api.NIf, "", one, block, one, block), nd(api.NIf, "", one, block, one, block, block), nd(api.NReturn, ""), nd(api.NReturn, "", list))
	holdAll(api.ErrArg, nd(api.NIf, ""), nd(api.NIf, "", one), nd(api.NIf, "", block), nd(api.NIf, "", block, block), nd(api.NIf, "", one, one), nd(api.NIf, "", one, block, one), nd(api.NIf, "", one, block, block, block), nd(api.NIf, "", one, block, one, one), nd(api.NIf, "", one, block, block, one), nd(api.NIf, "", one, labelled), nd(api.NIf, "", one, block, labelled), nd(api.NReturn, "", one, one), nd(api.NReturn, "", block))
	holdAll(api.ErrArg, nd(api.NWhile, "", block, block), nd(api.NWhile, "", one, one), nd(api.NWhile, "", one, labelled), nd(api.NFor, "_", one, block), nd(api.NFor, "_", list, list), nd(api.NFor, "_", list, labelled), nd(api.NFor, "_", nd(api.NNewArr, ""), block), nd(api.NDefine, "f", labelled), nd(api.NDefine, "f", one), nd(api.NPhase, "END", labelled), nd(api.NExpr, "", block), nd(api.NBlock, "", one), nd(api.NBlock, "", list))
	holdValid(t, api.OK, nd(api.NSub, "", block), nd(api.NDo, "", block), nd(api.NEval, "", block), nd(api.NEach, "map", block, list), nd(api.NEach, "grep", block, list), nd(api.NEach, "sort", block, nd(api.NList, "")))
	holdValid(t, api.ErrArg, nd(api.NSub, "", labelled), nd(api.NDo, "", labelled), nd(api.NEval, "", one), nd(api.NEach, "map", labelled, list), nd(api.NEach, "map", block, one), nd(api.NEach, "map", one, list), nd(api.NEach, "map", list, block), nd(api.NEach, "", block, list), nd(api.NEach, "each", block, list), nd(api.NEach, "Map", block, list), nd(api.NEach, "map", block, nd(api.NNewArr, "", one)))
}
