package show_test

import (
	"math/rand"
	"strings"
	"testing"

	"motley/api"
	"motley/show"
	"motley/tree"
)

func nd(op int, s string, l ...api.Node) api.Node { return api.Node{Op: op, S: s, L: l} }
func str(s string) api.Node                       { return nd(api.NStr, s) }
func sc(s string) api.Node                        { return nd(api.NScalar, s) }
func join(l ...api.Node) api.Node                 { return nd(api.NJoin, "", l...) }
func index(name string, place api.Node) api.Node {
	return nd(api.NIndex, "", nd(api.NArray, name), place)
}
func key(name, k string) api.Node { return nd(api.NKey, "", nd(api.NHash, name), str(k)) }

// P5.1: texts without interpolation.
func TestTexts(t *testing.T) {
	for s, want := range map[string]string{
		"": `''`, "a": `'a'`, "it's": `'it\'s'`, `\`: `'\\'`, `\'`: `'\\\''`, `a\n`: `'a\\n'`, `"$x@y`: `'"$x@y'`, "\t": "'\t'", " ~": `' ~'`, "/": `'/'`, "[0]{": `'[0]{'`,
		"\n": `"\n"`, "\n ~": `"\n ~"`, "a\n\tb": `"a\n\tb"`, "\n'\"\\": `"\n'\"\\"`, "\n$x@y%z": `"\n\$x\@y%z"`, "\n[0]{a}/": `"\n[0]{a}/"`,
		"\x00": `"\x{0}"`, "\x1f": `"\x{1f}"`, "\r": `"\x{d}"`, "\x7f": `"\x{7f}"`, "é": `"\x{e9}"`, "aé€\U0001f600'": `"a\x{e9}\x{20ac}\x{1f600}'"`, "\U0010ffff": `"\x{10ffff}"`, "\ufffd": `"\x{fffd}"`, "é\t": `"\x{e9}\t"`,
	} {
		p := []api.Node{nd(api.NExpr, "", str(s))}
		got, e := show.Print(p)
		if got != want+";\n" || e != api.OK {
			t.Errorf("the text %q is printed %q %d, not %s", s, got, e, want)
		}
		holdRead(t, p, got)
	}
}

// joins are texts with interpolation, with what stands between their quotes.
var joins = []struct {
	n    api.Node
	text string
}{
	{join(sc("x")), "${x}"}, {join(sc("_")), "${_}"}, {join(sc("A::b")), "${A::b}"}, {join(sc("if")), "${if}"}, {join(sc("1")), "$1"}, {join(sc("9")), "$9"}, {join(sc("@")), "$@"}, {join(sc("&")), "$&"},
	{join(nd(api.NArray, "x")), "@{x}"}, {join(nd(api.NArray, "_")), "@{_}"}, {join(nd(api.NArray, "A::b")), "@{A::b}"},
	{join(index("x", api.Node{Op: api.NNum})), "$x[0]"}, {join(index("A::b", api.Node{Op: api.NNum, N: 999999999999999})), "$A::b[999999999999999]"}, {join(index("_", sc("i"))), "$_[$i]"}, {join(index("x", sc("A::b"))), "$x[$A::b]"}, {join(index("x", sc("_"))), "$x[$_]"},
	{join(key("x", "k")), "$x{k}"}, {join(key("x", "if")), "$x{if}"}, {join(key("_", "_")), "$_{_}"}, {join(key("x", "A::b")), "$x{A::b}"},
	{join(str("a"), sc("b")), "a${b}"}, {join(sc("a"), str("b")), "${a}b"}, {join(sc("a"), sc("b"), str("c"), sc("1"), str("0")), "${a}${b}c${1}0"},
	{join(str(`"\$@/`), sc("b"), str("'\n\t\x01é%&")), `\"\\\$\@/${b}'\n\t\x{1}\x{e9}%&`},
	{join(sc("a"), str("[0]")), `${a}\[0]`}, {join(sc("a"), str("{k}")), `${a}\{k}`}, {join(sc("1"), str("[0]")), `$1\[0]`}, {join(sc("@"), str("{k}")), `$@\{k}`}, {join(sc("a"), str("[")), `${a}\[`},
	{join(sc("a"), str("b[0]")), `${a}b[0]`}, {join(sc("a"), str("]")), `${a}]`}, {join(str("[0]"), sc("a")), `[0]${a}`}, {join(str("{"), sc("a"), str("}")), `{${a}}`},
	{join(nd(api.NArray, "a"), str("[0]")), `@{a}[0]`}, {join(nd(api.NArray, "a"), str("{k}")), `@{a}{k}`}, {join(index("a", sc("i")), str("[0]{k}")), `$a[$i][0]{k}`}, {join(key("a", "k"), str("{k}[0]")), `$a{k}{k}[0]`},
	{join(sc("a"), sc("b"), str("{"), sc("c"), str("[")), `${a}${b}\{${c}\[`}, {join(sc("a"), str("-"), index("b", sc("c"))), "${a}-$b[$c]"},
	{join(str("$"), sc("a"), str("$@\\")), `\$${a}\$\@\\`},
}

// P5.1: texts with interpolation.
func TestJoins(t *testing.T) {
	for _, c := range joins {
		want := strings.ReplaceAll(c.text, "${1}", "$1")
		p := []api.Node{nd(api.NExpr, "", c.n)}
		if s, e := show.Print(p); s != `"`+want+"\";\n" || e != api.OK {
			t.Errorf("%s is printed %s %d", want, s, e)
		} else {
			holdRead(t, p, s)
		}
	}
}

// P5.2: what stands between the quotes of texts.
func TestInter(t *testing.T) {
	for _, c := range joins {
		want := strings.ReplaceAll(c.text, "${1}", "$1")
		s, e := show.Inter(c.n)
		if s != want || e != api.OK {
			t.Errorf("Inter: %s %d, not %s", s, e, want)
		}
		holdInter(t, c.n, s)
	}
	for s, want := range map[string]string{
		"": "", "a": "a", "it's": "it's", `\"$x@y`: `\\\"\$x\@y`, "\n\t": `\n\t`, "é\x00\x7f": `\x{e9}\x{0}\x{7f}`, "[0]{k}/%": "[0]{k}/%",
	} {
		got, e := show.Inter(str(s))
		if got != want || e != api.OK {
			t.Errorf("Inter of the text %q: %s %d, not %s", s, got, e, want)
		}
		holdInter(t, str(s), got)
	}
}

// holdInter holds what is read from what stands between quotes against its node.
func holdInter(t *testing.T, n api.Node, s string) {
	t.Helper()
	if m, e := tree.Inter(s); e != api.OK || !tree.Same([]api.Node{n}, []api.Node{m}) {
		t.Errorf("%q is read as %+v %d, not %+v", s, m, e, n)
	}
}

// P5.2: nodes whose text is not asked of Inter, or is read as something else.
func TestInterRefuses(t *testing.T) {
	for op := -1; op < 60; op++ {
		if op == api.NStr || op == api.NJoin {
			continue
		}
		if s, e := show.Inter(nd(op, "\xff"+long("a", api.MaxText), sc("x"))); s != "" || e != api.ErrType {
			t.Errorf("Inter of a node %d: %q %d", op, s, e)
		}
	}
	num := func(n int) api.Node { return api.Node{Op: api.NNum, N: n} }
	with := func(n api.Node, s, t string, num int, l ...api.Node) api.Node {
		return api.Node{Op: n.Op, S: n.S + s, T: n.T + t, N: n.N + num, L: append(append([]api.Node{}, n.L...), l...)}
	}
	for _, n := range []api.Node{
		str("\xff"), str("a\xc3"), with(str("a"), "", "t", 0), with(str("a"), "", "", 1), with(str("a"), "", "", 0, sc("x")),
		join(), join(str("a")), join(str("")), join(str("a"), str("b")), join(str(""), sc("a")), join(sc("a"), str("")), join(sc("a"), str("b"), str("c")), join(str("b"), str("c"), sc("a")),
		with(join(sc("a")), "s", "", 0), with(join(sc("a")), "", "t", 0), with(join(sc("a")), "", "", -1),
		join(sc("")), join(sc("10")), join(sc("0")), join(sc("a b")), join(sc("abcdefghijklm")), join(sc("a::")), join(sc("$")), join(sc("x}[0")), join(sc("x}")), join(sc("\xff")), join(sc(long("a", 5000))), join(sc("{x}")), join(sc("[0]")),
		join(with(sc("a"), "", "t", 0)), join(with(sc("a"), "", "", 1)), join(with(sc("a"), "", "", 0, sc("b"))),
		join(nd(api.NArray, "")), join(nd(api.NArray, "@")), join(nd(api.NArray, "1")), join(nd(api.NArray, "a}")), join(with(nd(api.NArray, "a"), "", "", 1)), join(nd(api.NArray, long("a", 5000))),
		join(nd(api.NHash, "a")), join(num(1)), join(nd(api.NCall, "f")), join(join(sc("a"))), join(nd(api.NExpr, "", sc("a"))), join(nd(api.NDeref, "@", sc("a"))), join(nd(-1, "a")), join(nd(api.NSlice, "", nd(api.NArray, "a"), nd(api.NList, "", num(1)))),
		join(index("a", num(-1))), join(index("a", num(1000000000000000))), join(index("a", sc("1"))), join(index("a", sc("@"))), join(index("a", str("0"))), join(index("a", nd(api.NArray, "i"))), join(index("1", num(0))), join(index("", num(0))), join(index("a[0]", num(0))), join(index("a", sc("x][0"))),
		join(nd(api.NIndex, "")), join(nd(api.NIndex, "", nd(api.NArray, "a"))), join(nd(api.NIndex, "", nd(api.NArray, "a"), num(0), num(0))), join(nd(api.NIndex, "", nd(api.NHash, "a"), num(0))), join(nd(api.NIndex, "", sc("a"), num(0))), join(nd(api.NIndex, "s", nd(api.NArray, "a"), num(0))),
		join(nd(api.NIndex, "", nd(api.NDeref, "@", sc("a")), num(0))), join(nd(api.NIndex, "", nd(api.NDeref, "@", sc("a")), num(0))), join(index("a", with(num(0), "0", "", 0))), join(index("a", with(sc("i"), "", "", 0, sc("j")))), join(nd(api.NIndex, "", with(nd(api.NArray, "a"), "", "", 0, sc("j")), num(0))),
		join(key("a", "")), join(key("a", "a b")), join(key("a", "1")), join(key("a", "abcdefghijklm")), join(key("@", "k")), join(key("a", "k}{k")), join(nd(api.NKey, "")), join(nd(api.NKey, "", nd(api.NArray, "a"), str("k"))), join(nd(api.NKey, "", nd(api.NHash, "a"), sc("k"))), join(nd(api.NKey, "", nd(api.NHash, "a"), with(str("k"), "", "", 2))),
		join(sc("a"), str("\xff")), join(sc("a"), with(str("b"), "", "t", 0)), join(sc("a"), with(str("b"), "", "", 0, sc("c"))), join(sc("a"), nd(-1, "b")),
		join(str(long("a", 2*api.MaxText)), str("b")), with(str(long("a", 2*api.MaxText)), "", "t", 0), str(long("a", 2*api.MaxText) + "\xff"),
	} {
		if s, e := show.Inter(n); s != "" || e != api.ErrArg {
			t.Errorf("Inter of %.200v: %.100q %d, not ErrArg", n, s, e)
		}
	}
}

// P5.2: texts of MaxText bytes, and of one more.
func TestInterLength(t *testing.T) {
	var many []api.Node
	for range api.MaxText / 4 {
		many = append(many, sc("a"))
	}
	for _, n := range []api.Node{
		str(long("a", api.MaxText)), str(long(`"`, api.MaxText/2)), str(long("\n", api.MaxText/2)), str(long("é", 682) + "aaaa"), join(sc("a"), str(long("b", api.MaxText-4))), join(many...), join(sc("1"), str("["+long("b", api.MaxText-4))),
	} {
		s, e := show.Inter(n)
		if len(s) != api.MaxText || e != api.OK {
			t.Errorf("Inter: %d bytes, %d", len(s), e)
		}
		holdInter(t, n, s)
		n.L = append([]api.Node{}, n.L...)
		switch {
		case n.Op == api.NStr:
			n.S += "a"
		case n.L[len(n.L)-1].Op == api.NStr:
			n.L[len(n.L)-1].S += "b"
		default:
			n.L = append(n.L, str("b"))
		}
		if s, e := show.Inter(n); s != "" || e != api.ErrLarge {
			t.Errorf("Inter of one more: %d bytes, %d", len(s), e)
		}
	}
	for _, n := range []api.Node{str(long(`"`, api.MaxText)), str(long("a", 100000)), join(append(many, many...)...), join(sc("a"), str(long("b", 100000)), sc("c"))} {
		if s, e := show.Inter(n); s != "" || e != api.ErrLarge {
			t.Errorf("Inter of many more: %d bytes, %d", len(s), e)
		}
	}
}

// P5.2: Inter of what tree.Inter makes of any bytes is read as this again.
func TestInterOfAnything(t *testing.T) {
	r := rand.New(rand.NewSource(51))
	pieces := []string{"a", "b", "$", "@", "{", "}", "[", "]", "0", "12", "_", "\\", "::", "&", "'", `"`, "\n", "\t", "é", "\x01", "\\x{41}", "/", " ", "$a[$i]", "${a}", "\xff"}
	for range 30000 {
		raw := ""
		for range r.Intn(10) {
			raw += pieces[r.Intn(len(pieces))]
		}
		n, e := tree.Inter(raw)
		if e != api.OK {
			t.Fatalf("tree.Inter of %q: %d", raw, e)
		}
		s, e := show.Inter(n)
		if strings.Contains(raw, "\xff") {
			if s != "" || e != api.ErrArg {
				t.Fatalf("Inter of a text with a byte of no character: %q %d", s, e)
			}
			continue
		}
		if e != api.OK {
			t.Fatalf("Inter of %+v: %d", n, e)
		}
		holdInter(t, n, s)
		if again, e := show.Inter(n); again != s || e != api.OK {
			t.Fatalf("Inter again: %q %d, not %q", again, e, s)
		}
	}
}

// P5.1: patterns, replacements and transliterations, with `/` and `\` in their texts.
func TestPatterns(t *testing.T) {
	match := func(s, flags string) api.Node {
		return api.Node{Op: api.NMatch, S: s, T: flags, L: []api.Node{sc("_")}}
	}
	subst := func(s string, by api.Node, flags string) api.Node {
		return api.Node{Op: api.NSubst, S: s, T: flags, L: []api.Node{sc("_"), by}}
	}
	trans := func(from, to, flags string) api.Node {
		return api.Node{Op: api.NTrans, S: from, T: to, L: []api.Node{sc("_"), str(flags)}}
	}
	for _, c := range []struct {
		n    api.Node
		want string
	}{
		{match("", ""), "m//"}, {match("a", "imsxg"), "m/a/imsxg"}, {match("/", ""), `m/\//`}, {match("//", "i"), `m/\/\//i`}, {match(`\\`, ""), `m/\\/`}, {match(`\\/`, ""), `m/\\\//`}, {match(`\d+[/]`, ""), `m/\d+[\/]/`},
		{match(`'"$x@y#`, ""), `m/'"$x@y#/`}, {match("a\n\tb", ""), "m/a\n\tb/"}, {match(`\"\'`, ""), `m/\"\'/`},
		{subst("", str(""), ""), "s///"}, {subst("a/b", str("c"), "g"), `s/a\/b/c/g`}, {subst(`\\`, str(`\`), ""), `s/\\/\\/`}, {subst("a", str(`/`), ""), `s/a/\//`}, {subst("a", str(`\/`), ""), `s/a/\\\//`}, {subst("a", str(`"'$x@y`), "i"), `s/a/\"'\$x\@y/i`},
		{subst("a", str("\n\té\x01"), ""), `s/a/\n\t\x{e9}\x{1}/`}, {subst("a\n", join(sc("1"), str("/["), sc("b"), str("["), nd(api.NArray, "c")), "m"), "s/a\n/$1\\/[${b}\\[@{c}/m"}, {subst("a", join(index("x", sc("i")), key("y", "k")), ""), "s/a/$x[$i]$y{k}/"},
		{trans("", "", ""), "tr///"}, {trans("a-z", "A-Z", "cdr"), "tr/a-z/A-Z/cdr"}, {trans("/", `\`, "d"), `tr/\//\\/d`}, {trans(`\/`, `\\//`, ""), `tr/\\\//\\\\\/\//`}, {trans("'\"$\n\t", "x@y", "r"), "tr/'\"$\n\t/x@y/r"},
	} {
		p := []api.Node{nd(api.NExpr, "", c.n)}
		s, e := show.Print(p)
		if s != c.want+";\n" || e != api.OK {
			t.Errorf("%s is printed %s %d", c.want, s, e)
		}
		holdRead(t, p, s)
		c.n.L = append([]api.Node{nd(api.NCall, "f")}, c.n.L[1:]...)
		p = []api.Node{nd(api.NExpr, "", c.n)}
		s, e = show.Print(p)
		if s != "f() =~ "+c.want+";\n" || e != api.OK {
			t.Errorf("%s of a call is printed %s %d", c.want, s, e)
		}
		holdRead(t, p, s)
	}
}
