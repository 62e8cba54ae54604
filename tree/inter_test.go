package tree_test

import (
	"fmt"
	"strings"
	"testing"
	"unicode/utf8"

	"motley/api"
	"motley/tree"
)

// toldInter is tell of the node of a text with interpolation, or its error.
func toldInter(raw string) string {
	x, e := tree.Inter(raw)
	if e != api.OK {
		return fmt.Sprintf("error %d", e)
	}
	return tell(x)
}

// P4.2: texts and escapes.
func TestEscapes(t *testing.T) {
	hold(t, toldInter, [][2]string{
		{"", "''"}, {"a", "'a'"}, {"a b\n", "'a b\n'"}, {`\n`, "'\n'"}, {`\t`, "'\t'"}, {`\"`, `'"'`}, {`\\`, `'\'`}, {`\$`, "'$'"}, {`\@`, "'@'"}, {`\/`, "'/'"}, {`"`, `'"'`}, {"/", "'/'"}, {"'", "'''"},
		{`\a`, "'a'"}, {`\q\r\0`, "'qr0'"}, {`\[`, "'['"}, {`\{`, "'{'"}, {"\\\n", "'\n'"}, {`\ `, "' '"}, {`\'`, "'''"}, {`\N\T`, "'NT'"}, {`\\n`, `'\n'`}, {`\\\n`, "'\\\n'"}, {`a\`, `'a\'`}, {`\`, `'\'`}, {`\\\`, `'\\'`},
		{`\$x`, "'$x'"}, {`\@x`, "'@x'"}, {`\\$x`, `(Join '\' $x)`}, {`\\\$x`, `'\$x'`}, {`$x\[0]`, "(Join $x '[0]')"}, {`$x\{a}`, "(Join $x '{a}')"}, {`@\x`, "'@x'"}, {`$\x`, "'$x'"}, {`$\{x}`, "'${x}'"},
		{"\xc3\xa4", "'ä'"}, {"\\\xc3\xa4", "'ä'"},
	})
	// A byte that needs no escape stays what it is behind one, but for those that stand for others.
	for c := range 256 {
		want := string([]byte{byte(c)})
		switch c {
		case 'n':
			want = "\n"
		case 't':
			want = "\t"
		}
		if x, e := tree.Inter(`\` + string([]byte{byte(c)})); e != api.OK || x.Op != api.NStr || x.S != want || len(x.L) != 0 {
			t.Errorf("Inter of \\%c: %v %d", c, x, e)
		}
	}
}

// P4.1: characters by their numbers, where these are numbers of characters.
func TestCharacters(t *testing.T) {
	for _, c := range []struct {
		h string
		n rune
	}{
		{"0", 0}, {"9", 9}, {"a", 10}, {"A", 10}, {"41", 'A'}, {"041", 'A'}, {"000041", 'A'}, {"7f", 0x7f}, {"80", 0x80}, {"e4", 'ä'}, {"E4", 'ä'}, {"aB", 0xab}, {"20ac", '€'}, {"d7ff", 0xd7ff}, {"e000", 0xe000}, {"fffd", 0xfffd}, {"ffff", 0xffff}, {"10000", 0x10000}, {"10FFFF", 0x10ffff},
	} {
		if x, e := tree.Inter(`\x{` + c.h + `}`); e != api.OK || x.Op != api.NStr || x.S != string(c.n) {
			t.Errorf("Inter of \\x{%s}: %v %d", c.h, x, e)
		}
		hold(t, toldInter, [][2]string{{`a\x{` + c.h + `}b$x`, "(Join 'a" + string(c.n) + "b' $x)"}, {`\\x{` + c.h + `}`, `'\x{` + c.h + `}'`}, {`\x{` + c.h, "'x{" + c.h + "'"}})
		if x, _, e := tree.ParseExpr(`"\x{` + c.h + `}"`); e != api.OK || x.S != string(c.n) {
			t.Errorf("ParseExpr of \\x{%s}: %v %d", c.h, x, e)
		}
	}
	for _, h := range []string{"", "d800", "D800", "dbff", "dc00", "dfff", "110000", "ffffff", "1000000", "0000041", "00000041", "g", "4g", "-1", "+1", " 1", "1 ", "0x1", "1_0", "4\n1", "\\41", "{41"} {
		hold(t, toldInter, [][2]string{{`\x{` + h + `}`, "'x{" + strings.TrimPrefix(h, `\`) + "}'"}})
	}
	hold(t, toldInter, [][2]string{{`\x`, "'x'"}, {`\x41`, "'x41'"}, {`\x{`, "'x{'"}, {`\x{41`, "'x{41'"}, {`\x {41}`, "'x {41}'"}, {`\X{41}`, "'X{41}'"}, {`\x{$x}`, "(Join 'x{' $x '}')"}, {`\x{41}}`, "'A}'"}, {`\x{24}x`, "'$x'"}, {`\x{5c}n`, `'\n'`}})
}

// P4.1: each form of a variable in a text, and those that break off.
func TestInterpolation(t *testing.T) {
	hold(t, toldInter, [][2]string{
		{"$x", "(Join $x)"}, {"a$x", "(Join 'a' $x)"}, {"$x b", "(Join $x ' b')"}, {"a$x-$y.", "(Join 'a' $x '-' $y '.')"}, {"$x$y", "(Join $x $y)"}, {"$x1_a", "(Join $x1_a)"}, {"$A::b", "(Join $A::b)"}, {"$A::b::c1", "(Join $A::b::c1)"}, {"$A::", "(Join $A '::')"}, {"$A::1", "(Join $A '::1')"}, {"$A:b", "(Join $A ':b')"}, {"$A:::b", "(Join $A ':::b')"}, {"$::a", "'$::a'"}, {"$if", "(Join $if)"}, {"$print", "(Join $print)"}, {"$x's", "(Join $x ''s')"},
		{"$_", "(Join $_)"}, {"$_x", "(Join $_x)"}, {"$@", "(Join $@)"}, {"$@x", "(Join $@ 'x')"}, {"$&", "(Join $&)"}, {"$&x", "(Join $& 'x')"}, {"$1", "(Join $1)"}, {"$9", "(Join $9)"}, {"$12", "(Join $1 '2')"}, {"$1a", "(Join $1 'a')"}, {"$1$2", "(Join $1 $2)"}, {"$0", "'$0'"}, {"$10", "(Join $1 '0')"},
		{"${x}", "(Join $x)"}, {"${x}y", "(Join $x 'y')"}, {"${_}", "(Join $_)"}, {"${A::b}c", "(Join $A::b 'c')"}, {"${if}", "(Join $if)"}, {"${1}", "'${1}'"}, {"${@}", "'${@}'"}, {"${&}", "'${&}'"}, {"${}", "'${}'"}, {"${x", "'${x'"}, {"${ x}", "'${ x}'"}, {"${x }", "'${x }'"}, {"${$x}", "(Join '${' $x '}')"}, {"${x[0]}", "'${x[0]}'"}, {"${a-b}", "'${a-b}'"},
		{"$x[0]", "(Join (Index @x 0))"}, {"$x[12]", "(Join (Index @x 12))"}, {"$x[999999999999999]", "(Join (Index @x 999999999999999))"}, {"a$x[0]b", "(Join 'a' (Index @x 0) 'b')"}, {"$x[$i]", "(Join (Index @x $i))"}, {"$x[$_]", "(Join (Index @x $_))"}, {"$x[$A::b]", "(Join (Index @x $A::b))"}, {"${x}[0]", "(Join (Index @x 0))"}, {"${x}[$i]", "(Join (Index @x $i))"}, {"$_[0]", "(Join (Index @_ 0))"}, {"$A::b[0]", "(Join (Index @A::b 0))"}, {"$x[0][1]", "(Join (Index @x 0) '[1]')"}, {"$x[0]{a}", "(Join (Index @x 0) '{a}')"}, {"$x[0]$y[1]", "(Join (Index @x 0) (Index @y 1))"},
		{"$x[]", "(Join $x '[]')"}, {"$x[", "(Join $x '[')"}, {"$x[0", "(Join $x '[0')"}, {"$x[$", "(Join $x '[$')"}, {"$x[$i", "(Join $x '[' $i)"}, {"$x[$]", "(Join $x '[$]')"}, {"$x[a]", "(Join $x '[a]')"}, {"$x[-1]", "(Join $x '[-1]')"}, {"$x[+1]", "(Join $x '[+1]')"}, {"$x[ 0]", "(Join $x '[ 0]')"}, {"$x[0 ]", "(Join $x '[0 ]')"}, {"$x[1a]", "(Join $x '[1a]')"}, {"$x[1_0]", "(Join $x '[1_0]')"}, {"$x[$1]", "(Join $x '[' $1 ']')"}, {"$x[$@]", "(Join $x '[' $@ ']')"}, {"$x[$&]", "(Join $x '[' $& ']')"}, {"$x[${i}]", "(Join $x '[' $i ']')"}, {"$x[$i[0]]", "(Join $x '[' (Index @i 0) ']')"}, {"$x[@i]", "(Join $x '[' @i ']')"}, {"$x [0]", "(Join $x ' [0]')"}, {"$x[1000000000000000]", "(Join $x '[1000000000000000]')"}, {"$x[00]", "(Join $x '[00]')"}, {"$x[01]", "(Join $x '[01]')"}, {"$x[\\0]", "(Join $x '[0]')"},
		{"$x{a}", "(Join (Key %x 'a'))"}, {"$x{if}", "(Join (Key %x 'if'))"}, {"$x{_}", "(Join (Key %x '_'))"}, {"$x{A::b}", "(Join (Key %x 'A::b'))"}, {"${x}{a}", "(Join (Key %x 'a'))"}, {"$_{a}", "(Join (Key %_ 'a'))"}, {"$x{a}{b}", "(Join (Key %x 'a') '{b}')"}, {"$x{a}[0]", "(Join (Key %x 'a') '[0]')"}, {"a$x{a}b", "(Join 'a' (Key %x 'a') 'b')"},
		{"$x{}", "(Join $x '{}')"}, {"$x{", "(Join $x '{')"}, {"$x{a", "(Join $x '{a')"}, {"$x{1}", "(Join $x '{1}')"}, {"$x{$y}", "(Join $x '{' $y '}')"}, {"$x{'a'}", "(Join $x '{'a'}')"}, {"$x{ a}", "(Join $x '{ a}')"}, {"$x{a }", "(Join $x '{a }')"}, {"$x{a-b}", "(Join $x '{a-b}')"}, {"$x {a}", "(Join $x ' {a}')"}, {"$x->[0]", "(Join $x '->[0]')"}, {"$x->{a}", "(Join $x '->{a}')"}, {"$x->m", "(Join $x '->m')"},
		{"$1[0]", "(Join $1 '[0]')"}, {"$1{a}", "(Join $1 '{a}')"}, {"$@[0]", "(Join $@ '[0]')"}, {"$&{a}", "(Join $& '{a}')"},
		{"@x", "(Join @x)"}, {"a@x b", "(Join 'a' @x ' b')"}, {"@_", "(Join @_)"}, {"@A::b", "(Join @A::b)"}, {"@{x}", "(Join @x)"}, {"@{x}y", "(Join @x 'y')"}, {"@{_}", "(Join @_)"}, {"@x[0]", "(Join @x '[0]')"}, {"@x{a}", "(Join @x '{a}')"}, {"@{x}[0]", "(Join @x '[0]')"}, {"@x@y", "(Join @x @y)"}, {"@if", "(Join @if)"},
		{"@", "'@'"}, {"@1", "'@1'"}, {"@@", "'@@'"}, {"@&", "'@&'"}, {"@{", "'@{'"}, {"@{}", "'@{}'"}, {"@{x", "'@{x'"}, {"@{1}", "'@{1}'"}, {"@$x", "(Join '@' $x)"}, {"@{$x}", "(Join '@{' $x '}')"}, {"@-", "'@-'"}, {"a@", "'a@'"}, {"@@x", "(Join '@' @x)"}, {"@ x", "'@ x'"},
		{"$", "'$'"}, {"$$", "'$$'"}, {"$$x", "(Join '$' $x)"}, {"$ x", "'$ x'"}, {"$-", "'$-'"}, {"a$", "'a$'"}, {"$$$x", "(Join '$$' $x)"}, {"${$", "'${$'"}, {"$#x", "'$#x'"}, {"$/", "'$/'"}, {"$\xc3\xa4", "'$ä'"}, {"$%x", "'$%x'"}, {"%x", "'%x'"}, {"&x", "'&x'"},
		{"$abcdefghijkl", "(Join $abcdefghijkl)"}, {"$abcdefghijklm", "'$abcdefghijklm'"}, {"@abcdefghijklm", "'@abcdefghijklm'"}, {"${abcdefghijkl}m", "(Join $abcdefghijkl 'm')"}, {"${abcdefghijklm}", "'${abcdefghijklm}'"}, {"$abcdef::ghij", "(Join $abcdef::ghij)"}, {"$abcdef::ghijk", "'$abcdef::ghijk'"}, {"$x{abcdefghijkl}", "(Join (Key %x 'abcdefghijkl'))"}, {"$x{abcdefghijklm}", "(Join $x '{abcdefghijklm}')"}, {"$x[$abcdefghijkl]", "(Join (Index @x $abcdefghijkl))"}, {"$x[$abcdefghijklm]", "(Join $x '[$abcdefghijklm]')"}, {"@{abcdefghijklm}", "'@{abcdefghijklm}'"},
		{`$x\$y`, "(Join $x '$y')"}, {`$x\n`, "(Join $x '\n')"}, {`$x\\[0]`, `(Join $x '\[0]')`}, {`$x\x{5b}0]`, "(Join $x '[0]')"},
	})
	for raw, want := range map[string]string{"a$b[0]c": "(Join 'a' (Index @b 0) 'c')", "": "''", "@x": "(Join @x)", `\x{41}$1`: "(Join 'A' $1)"} {
		hold(t, toldExpr, [][2]string{{`"` + raw + `"`, want}, {"qq(" + raw + ")", want}, {"s/a/" + raw + "/", "(Subst a $_ " + want + ")"}, {"<<E\n" + raw + "\nE\n", toldInter(raw + "\n")}})
	}
}

// P4.2: Inter has no other error than that of a text that is too long; Parse has none of it.
func TestLongTexts(t *testing.T) {
	for _, s := range []string{long("a", api.MaxText), long("\xff", api.MaxText), long(`\n`, api.MaxText/2), long("$x", api.MaxText/2), long("$", api.MaxText), long("${", api.MaxText/2), long(`\`, api.MaxText)} {
		if x, e := tree.Inter(s); e != api.OK || x.Op == 0 {
			t.Errorf("Inter of %.5q and so on: %d", s, e)
		}
		if x, e := tree.Inter(s + "a"); e != api.ErrLarge || tell(x) != "()" {
			t.Errorf("Inter of %.5q and so on, one more: %.20s %d", s, tell(x), e)
		}
	}
	// Each of these stands for two bytes of the text between `"` and `"`.
	s := long(`"`, api.MaxSource-len("qq()"))
	if x, n, e := tree.ParseExpr("qq(" + s + ")"); e != api.OK || n != 1 || x.Op != api.NStr || x.S != s {
		t.Errorf("ParseExpr of many marks: %d %d %.20s", n, e, tell(x))
	}
	if x, n, e := tree.ParseExpr("s(a)(" + s[2:] + ")"); e != api.OK || n != 1 || x.L[1].S != s[2:] {
		t.Errorf("ParseExpr of a replacement by many marks: %d %d %.20s", n, e, tell(x))
	}
}

// P4.1: whatever is read in a text, its parts are as they must be.
func TestPartsOfTexts(t *testing.T) {
	pieces := []string{"$", "@", "x", "{", "}", "[", "]", "0", "1", `\`, "n", "_", "::", "&", " ", `\x{41}`, "$x", "@x", `"`}
	for a := range pieces {
		for b := range pieces {
			for c := range pieces {
				for d := range pieces {
					raw := pieces[a] + pieces[b] + pieces[c] + pieces[d]
					x, e := tree.Inter(raw)
					if p := []api.Node{{Op: api.NExpr, L: []api.Node{x}}}; e != api.OK || tree.Validate(p) != api.OK || !utf8.ValidString(tell(x)) {
						t.Fatalf("Inter of %q: %s %d", raw, tell(x), e)
					}
				}
			}
		}
	}
}
