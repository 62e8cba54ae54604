package tree_test

import (
	"fmt"
	"math/rand"
	"strconv"
	"strings"

	"motley/api"
)

// writer writes any nodes as a source, from which valid ones must be read again: operands stand in parentheses, where it likes so without need, too.
type writer struct{ r *rand.Rand }

// either returns one of some texts.
func (w writer) either(l ...string) string { return l[w.r.Intn(len(l))] }

func (w writer) statements(l []api.Node) string {
	var b strings.Builder
	for _, n := range l {
		b.WriteString(w.statement(n) + w.either(" ", "\n", "", ";", " # c\n"))
	}
	return b.String()
}

// part returns a part of a node, or one of no kind if it has no such part.
func part(n api.Node, i int) api.Node {
	if i >= len(n.L) {
		return api.Node{Op: -1}
	}
	return n.L[i]
}

func (w writer) block(n api.Node) string {
	return "{" + w.either("", " ", "\n") + w.statements(n.L) + "}"
}

func label(n api.Node) string {
	if n.T == "" {
		return ""
	}
	return n.T + ": "
}

func (w writer) statement(n api.Node) string {
	switch n.Op {
	case api.NExpr:
		s := w.expr(part(n, 0))
		if strings.HasPrefix(s, "{") || w.r.Intn(3) == 0 {
			s = "(" + s + ")"
		}
		return s + ";"
	case api.NIf:
		return w.branches(n)
	case api.NWhile:
		c := part(n, 0)
		if c.Op == api.NNot && c.S == "" && c.T == "" && c.N == 0 && len(c.L) == 1 && w.r.Intn(2) == 0 {
			return label(n) + "until (" + w.expr(c.L[0]) + ") " + w.block(part(n, 1))
		}
		return label(n) + "while (" + w.expr(c) + ") " + w.block(part(n, 1))
	case api.NFor:
		variable := "my $" + n.S + " "
		if n.N == 0 {
			variable = ""
		}
		return label(n) + "for " + variable + "(" + w.list(part(n, 0).L) + ") " + w.block(part(n, 1))
	case api.NBlock:
		return label(n) + w.block(n)
	case api.NDefine:
		return "sub " + n.S + " " + w.block(part(n, 0))
	case api.NPackage:
		return "package " + n.S + ";"
	case api.NReturn:
		if len(n.L) == 0 {
			return "return;"
		}
		return "return (" + w.expr(n.L[0]) + ");"
	case api.NLeave:
		return n.S + " " + n.T + ";"
	case api.NPhase:
		return n.S + " " + w.block(part(n, 0))
	}
	return "?;"
}

func (w writer) branches(n api.Node) string {
	word, s := "if", ""
	for i := 0; i < len(n.L); i += 2 {
		if i > 0 && i == len(n.L)-1 {
			return s + " else " + w.block(n.L[i])
		}
		s += word + " (" + w.expr(n.L[i]) + ") " + w.block(part(n, i+1))
		word = " elsif"
	}
	return s
}

// list writes the parts of a list.
func (w writer) list(l []api.Node) string {
	var b strings.Builder
	for i, n := range l {
		if i > 0 {
			b.WriteString(w.either(", ", " => ", ","))
		}
		b.WriteString(w.expr(n))
	}
	if len(l) > 0 {
		b.WriteString(w.either("", ","))
	}
	return b.String()
}

// operand writes what stands beside a sign.
func (w writer) operand(n api.Node) string {
	switch n.Op {
	case api.NNum, api.NScalar, api.NArray, api.NHash, api.NIndex, api.NKey, api.NCall, api.NFunc, api.NStr:
		if w.r.Intn(2) == 0 {
			return w.expr(n)
		}
	}
	return "(" + w.expr(n) + ")"
}

func (w writer) expr(n api.Node) string {
	switch n.Op {
	case api.NNum:
		return strconv.Itoa(n.N)
	case api.NStr, api.NJoin:
		return w.text(n)
	case api.NScalar, api.NArray, api.NHash:
		return sigil(n) + n.S
	case api.NIndex, api.NKey, api.NSlice, api.NKeys:
		return w.access(n)
	case api.NMy, api.NDeref, api.NList, api.NNewArr, api.NNewHash:
		return w.construct(n)
	case api.NCall, api.NFunc:
		return n.S + "(" + w.list(n.L) + ")"
	case api.NCallRef, api.NMethod:
		name := ""
		if n.Op == api.NMethod {
			name = n.S
		}
		return w.operand(part(n, 0)) + "->" + name + "(" + w.list(n.L[min(1, len(n.L)):]) + ")"
	case api.NMatch, api.NSubst, api.NTrans:
		return w.match(n)
	case api.NSub:
		return "sub " + w.block(part(n, 0))
	case api.NDo:
		return "do " + w.block(part(n, 0))
	case api.NEval:
		return "eval " + w.block(part(n, 0))
	case api.NEach:
		return n.S + " " + w.block(part(n, 0)) + " (" + w.list(part(n, 1).L) + ")"
	}
	return w.operation(n)
}

func sigil(n api.Node) string {
	return map[int]string{api.NScalar: "$", api.NArray: "@", api.NHash: "%"}[n.Op]
}

func (w writer) operation(n api.Node) string {
	x, y, z := part(n, 0), part(n, 1), part(n, 2)
	switch n.Op {
	case api.NRef:
		return `\` + w.operand(x)
	case api.NNeg:
		return "- " + w.operand(x)
	case api.NNot:
		return "! " + w.operand(x)
	case api.NBin, api.NLogic:
		return w.operand(x) + " " + n.S + " " + w.operand(y)
	case api.NCond:
		return w.operand(x) + " ? " + w.operand(y) + " : " + w.operand(z)
	case api.NAssign:
		return w.expr(x) + " = " + w.operand(y)
	case api.NUpdate:
		return w.expr(x) + " " + n.S + " " + w.operand(y)
	case api.NInc:
		return strings.Replace(n.S, "x", w.operand(x), 1)
	}
	return "?"
}

func (w writer) construct(n api.Node) string {
	switch n.Op {
	case api.NMy:
		if n.N == 1 {
			var names []string
			for _, x := range n.L {
				names = append(names, w.expr(x))
			}
			return n.S + " (" + strings.Join(names, ", ") + ")"
		}
		return n.S + " " + w.expr(part(n, 0))
	case api.NDeref:
		return n.S + "{" + w.expr(part(n, 0)) + "}"
	case api.NNewArr:
		return "[" + w.list(n.L) + "]"
	case api.NNewHash:
		return "{" + w.list(n.L) + "}"
	}
	s := w.list(n.L)
	if len(n.L) == 1 && s[len(s)-1] != ',' {
		s += ","
	}
	return "(" + s + ")"
}

func (w writer) access(n api.Node) string {
	x, y := part(n, 0), part(n, 1)
	taken, marks := w.expr(y), "[]"
	if n.Op == api.NKey || n.Op == api.NKeys {
		marks = "{}"
	}
	before := "$"
	if n.Op == api.NSlice || n.Op == api.NKeys {
		before = "@"
		if y.Op == api.NList {
			taken = w.list(y.L)
		}
	}
	taken = marks[:1] + taken + marks[1:]
	if x.Op != api.NDeref {
		return before + x.S + taken
	}
	if before == "$" && w.r.Intn(2) == 0 {
		return w.operand(part(x, 0)) + "->" + taken
	}
	return before + "{" + w.expr(part(x, 0)) + "}" + taken
}

func (w writer) match(n api.Node) string {
	subject := w.operand(part(n, 0)) + " =~ "
	if tell(part(n, 0)) == "$_" && w.r.Intn(2) == 0 {
		subject = ""
	}
	slashes := strings.NewReplacer("/", `\/`)
	both := strings.NewReplacer("/", `\/`, `\`, `\\`)
	switch n.Op {
	case api.NMatch:
		return subject + "m/" + slashes.Replace(n.S) + "/" + n.T
	case api.NSubst:
		return subject + "s/" + slashes.Replace(n.S) + "/" + strings.ReplaceAll(inside(part(n, 1)), "/", `\/`) + "/" + n.T
	}
	return subject + "tr/" + both.Replace(n.S) + "/" + both.Replace(n.T) + "/" + part(n, 1).S
}

// text writes a text, with or without parts.
func (w writer) text(n api.Node) string {
	if n.Op == api.NStr && w.r.Intn(2) == 0 && !strings.ContainsFunc(n.S, func(c rune) bool { return c != '\n' && (c < ' ' || c > '~') }) {
		return "'" + strings.NewReplacer(`\`, `\\`, "'", `\'`).Replace(n.S) + "'"
	}
	return `"` + inside(n) + `"`
}

// inside writes what stands between the marks of a text, with everything escaped that could be something else.
func inside(n api.Node) string {
	if n.Op == api.NStr {
		var b strings.Builder
		for _, c := range n.S {
			switch {
			case c == '\n':
				b.WriteString(`\n`)
			case strings.ContainsRune("\"\\$@[{", c):
				b.WriteString(`\` + string(c))
			case c < ' ' || c > '~':
				fmt.Fprintf(&b, `\x{%x}`, c)
			default:
				b.WriteRune(c)
			}
		}
		return b.String()
	}
	var b strings.Builder
	for _, x := range n.L {
		switch x.Op {
		case api.NStr:
			b.WriteString(inside(x))
		case api.NScalar:
			if len(x.S) == 1 && strings.Contains("@&123456789", x.S) {
				b.WriteString("$" + x.S)
			} else {
				b.WriteString("${" + x.S + "}")
			}
		case api.NArray:
			b.WriteString("@{" + x.S + "}")
		case api.NIndex:
			place := part(x, 1)
			b.WriteString("$" + part(x, 0).S + "[")
			if place.Op == api.NNum {
				b.WriteString(strconv.Itoa(place.N) + "]")
			} else {
				b.WriteString("$" + place.S + "]")
			}
		case api.NKey:
			b.WriteString("$" + part(x, 0).S + "{" + part(x, 1).S + "}")
		default:
			b.WriteString("$")
		}
	}
	return b.String()
}
