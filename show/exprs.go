package show

import (
	"strconv"

	"motley/api"
	"motley/lex"
	"motley/tree"
)

// expr writes an expression without parentheses of its own.
func (p *printer) expr(n api.Node) {
	switch n.Op {
	case api.NNum:
		p.WriteString(strconv.Itoa(n.N))
	case api.NStr, api.NJoin:
		p.text(n)
	case api.NScalar, api.NArray, api.NHash:
		p.WriteString(sigil(n) + n.S)
	case api.NMy:
		p.declaration(n)
	case api.NIndex, api.NKey:
		p.element(n)
	case api.NSlice, api.NKeys:
		p.slice(n)
	case api.NDeref:
		p.between(n.S+"{", n.L, "}")
	case api.NList:
		p.loneList(n.L)
	case api.NNewArr:
		p.between("[", n.L, "]")
	case api.NNewHash:
		p.between("{", n.L, "}")
	case api.NCall, api.NFunc:
		p.WriteString(n.S)
		p.list(n.L)
	case api.NCallRef, api.NMethod:
		p.called(n)
	case api.NMatch, api.NSubst, api.NTrans:
		p.matching(n)
	case api.NSub, api.NDo, api.NEval, api.NEach:
		p.withBlock(n)
	default:
		p.operation(n)
	}
}

// sigil returns what stands before the name of a variable.
func sigil(n api.Node) string {
	switch n.Op {
	case api.NArray:
		return "@"
	case api.NHash:
		return "%"
	}
	return "$"
}

func (p *printer) declaration(n api.Node) {
	p.WriteString(n.S + " ")
	if n.N == 1 {
		p.list(n.L)
		return
	}
	p.parts(n.L)
}

// element writes an element of a variable, or of what is referred to.
func (p *printer) element(n api.Node) {
	if of := n.L[0]; of.Op == api.NDeref {
		p.beforeArrow(of.L[0])
		p.WriteString("->")
	} else {
		p.WriteString("$" + of.S)
	}
	if n.Op == api.NIndex {
		p.between("[", n.L[1:], "]")
		return
	}
	p.key(n.L[1])
}

func (p *printer) key(n api.Node) {
	if n.Op == api.NStr && lex.IsWord(n.S) {
		p.WriteString("{" + n.S + "}")
		return
	}
	p.between("{", []api.Node{n}, "}")
}

func (p *printer) slice(n api.Node) {
	if of := n.L[0]; of.Op == api.NDeref {
		p.between("@{", of.L, "}")
	} else {
		p.WriteString("@" + of.S)
	}
	from, to := "[", "]"
	if n.Op == api.NKeys {
		from, to = "{", "}"
	}
	// The document takes the parentheses of the list away where it has two or more parts, or none.
	if len(n.L[1].L) == 1 {
		from, to = from+"(", ")"+to
	}
	p.between(from, n.L[1].L, to)
}

// loneList writes a list where the grammar asks for an expression.
func (p *printer) loneList(l []api.Node) {
	if len(l) == 1 {
		p.between("(", l, ",)")
		return
	}
	p.list(l)
}

// called writes a call of a code or of a method.
func (p *printer) called(n api.Node) {
	if class := n.L[0]; n.Op == api.NMethod && class.Op == api.NStr && tree.IsName(class.S) {
		p.WriteString(class.S)
	} else {
		p.beforeArrow(class)
	}
	p.WriteString("->" + n.S)
	p.list(n.L[1:])
}

// withBlock writes a word and a block, and perhaps a list behind it.
func (p *printer) withBlock(n api.Node) {
	p.WriteString(word(n) + " ")
	p.block(n.L[0])
	if n.Op == api.NEach {
		p.WriteString(" ")
		p.list(n.L[1].L)
	}
}

// word returns the word before the block of an expression.
func word(n api.Node) string {
	switch n.Op {
	case api.NSub:
		return "sub"
	case api.NDo:
		return "do"
	case api.NEval:
		return "eval"
	}
	return n.S
}
