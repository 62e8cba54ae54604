package show_test

import (
	"regexp"
	"slices"
	"strconv"
	"strings"
	"testing"

	"motley/api"
	"motley/lex"
	"motley/tree"
)

// A form is the text of an expression or statement with holes, as the chapter writes it. The letter of a hole says how what is put into it is written, and what may be put into it:
//
//	e f    any expression; f: first in a statement or behind `return`
//	o      any, as an operand; a: before `->`; n: behind `-`; d: left of `/` and its like; q: right of a word
//	c k m  any; c: a class; k: a key; m: a subject, with its `=~`
//	l p t  any number of any; p: those of a slice; t: more of them, behind a comma
//	A H E P M  an array, a hash, an element, a scalar place, a match
//	u w    what is updated; w: as an operand
//	v V    what is assigned; V: in a list of such
//	L      what is local
//	b      a block of any number of statements
var holes = regexp.MustCompile(`«(.)»`)

// begin marks the begin of a line, where blanks are put in for each block around; a line feed within a quote is none.
const begin = "\x01"

// piece is a node with the text that it should have.
type piece struct {
	node api.Node
	text string
}

var leaves = []string{
	"0", "12", "999999999999999", `''`, `'a'`, `'new'`, `'print'`, `'a b'`, `'\\\''`, "'a\tb'", `"\x{e9}"`, `"a\n"`, `"${a}"`,
	`"a${b}c$d[0]$e[$i]$f{k}@{g}\$\@\"\\"`, `"${a}\[0]$1\{x}@{a}[0]$a[1][2]"`, "$a", "$_", "$@", "$1", "$&", "$A::b", "@a", "@_", "%h",
	"my $a", "our @a", "my %h", "my ($a)", "our ($a, @b, %c)", "()", "shift()", "undef()", "wantarray()", "f()",
	`m/a\/b/`, "m//ig", "m/a\n(b)/imsxg", `s/\\\/x/a${b}\/\"\\\\\n/g`, "s///", `tr/a-z\/\\/A-Z'"/cdr`, "tr///",
}

var (
	arrays   = []string{"@a", "@{«e»}"}
	hashes   = []string{"%h", "%{«e»}"}
	elements = []string{"$a[«e»]", "$h{«k»}", "«a»->[«e»]", "«a»->{«k»}"}
	sliced   = []string{"@a[«p»]", "@h{«p»}", "@{«e»}[«p»]", "@{«e»}{«p»}"}
	places   = slices.Concat([]string{"$a", "${«e»}"}, elements)
	matches  = []string{"«m»m/,/"}
	locals   = slices.Concat([]string{"$a", "@a", "%h", "()", "(«L»,)", "(«L», «L»)"}, elements, sliced)
	updated  = slices.Concat([]string{"my $a", "our $b", "local $a", "local «E»"}, places)
	assigned = slices.Concat([]string{"my @a", "our ($a, %h)", "local «L»", "()", "(«V»,)", "(«V», «V»)", "(undef(), «V»)"}, arrays, hashes, sliced, updated)
)

// constructs are forms of expressions that have holes and are not operators.
var constructs = slices.Concat(elements, sliced, arrays[1:], hashes[1:], []string{
	"${«e»}", "local «L»", "(«e»,)", "(«e», «e»)", "(«e», «e», «e»)", "[«l»]", "{«l»}", "sub «b»", "do «b»", "eval «b»",
	"map «b» («l»)", "grep «b» («l»)", "sort «b» («l»)", "f(«l»)", "A::b(«l»)", "«a»->(«l»)", "«c»->go(«l»)", "C->new(«l»)",
	"print(«l»)", "push(«A»«t»)", "pop(«A»)", "keys(«H»)", "delete(«E»)", "exists(«E»)", "defined(«e»)", "join(«e»«t»)",
	"substr(«e», «e», «e»)", "split(«M», «e»)", "weaken(«P»)", "tie(«P», «e»«t»)", "undef(«A»)", "undef(«H»)", "undef(«P»)",
	"«m»m/b/", "«m»m/b/i", "«m»s/b/${c}d/g", "«m»tr/b/c/d", "«m»tr/a//",
})

// operators are forms of all operators.
func operators() []string {
	l := []string{`\«o»`, "-«n»", "!«o»", "«o» ? «o» : «o»", "«v» = «o»", "++«w»", "--«w»", "«w»++", "«w»--"}
	for _, s := range strings.Fields("+ - . * .. || && | ^ == != <=> < > <= >=") {
		l = append(l, "«o» "+s+" «o»")
	}
	for _, s := range strings.Fields("/ % // &") {
		l = append(l, "«d» "+s+" «o»")
	}
	for _, s := range strings.Fields("x lt gt le ge eq ne cmp") {
		l = append(l, "«o» "+s+" «q»")
	}
	for _, s := range strings.Fields("+= -= *= /= %= .= ||= &&= //=") {
		l = append(l, "«u» "+s+" «o»")
	}
	return l
}

var exprs = slices.Concat(leaves, constructs, operators())

var statements = []string{
	"«f»;", "return;", "return «f»;", "last;", "next;", "last L;", "next A::b;", "package P;", "package A::b;",
	"sub f «b»", "sub A::b «b»", "BEGIN «b»", "END «b»", "«b»", "L: «b»", "while («e») «b»", "L: while («e») «b»",
	"for («l») «b»", "L: for («l») «b»", "for my $x («l») «b»", "A::b: for my $_a («l») «b»",
	"if («e») «b»", "if («e») «b» else «b»", "if («e») «b» elsif («e») «b»", "if («e») «b» elsif («e») «b» elsif («e») «b» else «b»",
}

// formsFor returns the forms of what may be put into a hole.
func formsFor(hole string) []string {
	switch hole {
	case "A":
		return arrays
	case "H":
		return hashes
	case "E":
		return elements
	case "P":
		return places
	case "M":
		return matches
	case "L":
		return locals
	case "u", "w":
		return updated
	case "v", "V":
		return assigned
	case "b":
		return statements
	}
	return exprs
}

// holesOf returns the letters of the holes of a form.
func holesOf(form string) []string {
	var l []string
	for _, m := range holes.FindAllStringSubmatch(form, -1) {
		l = append(l, m[1])
	}
	return l
}

// standIn is what stands for the hole of a number where a form is read.
func standIn(hole string, i int) string {
	name := "h" + strconv.Itoa(i)
	switch hole {
	case "A":
		return "@" + name
	case "H":
		return "%" + name
	case "E":
		return "$" + name + "[0]"
	case "M":
		return "m/" + name + "/"
	case "t":
		return ", $" + name
	case "m":
		return "$" + name + " =~ "
	case "b":
		return "{ " + name + "(); }"
	}
	return "$" + name
}

// filled puts nodes into the holes of others.
func filled(l []api.Node, fill [][]piece) []api.Node {
	var out []api.Node
	for _, n := range l {
		i, is := holeAt(n)
		switch {
		case is && n.Op == api.NBlock:
			n.L = nil
			for _, x := range fill[i] {
				n.L = append(n.L, x.node)
			}
			out = append(out, n)
		case is:
			for _, x := range fill[i] {
				out = append(out, x.node)
			}
		default:
			n.L = filled(n.L, fill)
			out = append(out, n)
		}
	}
	return out
}

// holeAt returns the number of the hole for which a node stands.
func holeAt(n api.Node) (int, bool) {
	switch n.Op {
	case api.NBlock, api.NExpr, api.NIndex:
		if len(n.L) == 0 {
			return 0, false
		}
		x := n.L[0]
		if n.Op == api.NIndex && x.Op != api.NArray || n.Op == api.NBlock && x.Op != api.NExpr || n.Op == api.NExpr && x.Op != api.NCall {
			return 0, false
		}
		return holeAt(x)
	case api.NScalar, api.NArray, api.NHash, api.NMatch, api.NCall:
		digits, is := strings.CutPrefix(n.S, "h")
		i, err := strconv.Atoi(digits)
		return i, is && err == nil
	}
	return 0, false
}

// compose puts pieces into the holes of a form.
func compose(t *testing.T, form string, fill [][]piece) piece {
	t.Helper()
	i, j := 0, 0
	source := holes.ReplaceAllStringFunc(form, func(hole string) string {
		i++
		return standIn(holes.FindStringSubmatch(hole)[1], i-1)
	})
	text := holes.ReplaceAllStringFunc(form, func(hole string) string {
		j++
		return put(holes.FindStringSubmatch(hole)[1], fill[j-1])
	})
	if slices.Contains(statements, form) {
		p, _, e := tree.Parse(source)
		if e != api.OK || len(p) != 1 {
			t.Fatalf("the form %s: %d", source, e)
		}
		// Its own first node is no hole, even if it is a block.
		if form == "«b»" || form == "L: «b»" {
			return piece{filled(p, fill)[0], text}
		}
		p[0].L = filled(p[0].L, fill)
		return piece{p[0], text}
	}
	n, _, e := tree.ParseExpr("(" + source + ")")
	if e != api.OK {
		t.Fatalf("the form %s: %d", source, e)
	}
	n.L = filled(n.L, fill)
	return piece{n, text}
}

// opsIn reports whether an operation is one of some.
func opsIn(n api.Node, l ...int) bool { return slices.Contains(l, n.Op) }

// inParentheses reports whether the chapter has a node stand in parentheses in a hole.
func inParentheses(hole string, n api.Node) bool {
	isMatching := opsIn(n, api.NMatch, api.NSubst, api.NTrans)
	operand := opsIn(n, api.NNeg, api.NNot, api.NBin, api.NLogic, api.NCond, api.NAssign, api.NUpdate, api.NInc, api.NRef) ||
		n.Op == api.NMy && n.S == "local" || isMatching && !tree.Same(n.L[:1], []api.Node{{Op: api.NScalar, S: "_"}})
	switch hole {
	case "o", "n", "w", "m":
		return operand
	case "d":
		return operand || opsIn(n, api.NSub, api.NDo, api.NEval)
	case "q":
		return operand || n.Op == api.NNewHash
	case "a", "c":
		return operand || isMatching || opsIn(n, api.NSub, api.NDo, api.NEval, api.NEach, api.NMy, api.NNum, api.NStr, api.NJoin, api.NNewHash)
	}
	return false
}

// put returns the text of what is put into a hole.
func put(hole string, l []piece) string {
	var texts []string
	for _, x := range l {
		texts = append(texts, x.text)
	}
	switch hole {
	case "t":
		return strings.Join(append([]string{""}, texts...), ", ")
	case "l", "p":
		s := strings.Join(texts, ", ")
		if hole == "p" && len(l) == 1 {
			return "(" + s + ")"
		}
		return s
	case "b":
		s := "{"
		for _, text := range texts {
			s += begin + "    " + strings.ReplaceAll(text, begin, begin+"    ")
		}
		return s + begin + "}"
	}
	n, s := l[0].node, texts[0]
	switch {
	case hole == "m" && n.Op == api.NScalar && n.S == "_":
		return ""
	case hole == "k" && n.Op == api.NStr && lex.IsWord(n.S), hole == "c" && n.Op == api.NStr && tree.IsName(n.S):
		return n.S
	case hole == "v" && n.Op == api.NList && len(n.L) == 1:
		return strings.TrimSuffix(s, ",)") + ")"
	case hole == "n" && n.Op == api.NNum:
		return " " + s
	case hole == "f" && s[0] == '{', inParentheses(hole, n):
		s = "(" + s + ")"
	}
	if hole == "m" {
		return s + " =~ "
	}
	return s
}

// textOf returns the text of statements.
func textOf(l []piece) string {
	var b strings.Builder
	for _, x := range l {
		b.WriteString(strings.ReplaceAll(x.text, begin, "\n") + "\n")
	}
	return b.String()
}

// nodesOf returns the nodes of statements.
func nodesOf(l []piece) []api.Node {
	var p []api.Node
	for _, x := range l {
		p = append(p, x.node)
	}
	return p
}
