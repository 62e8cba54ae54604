package show

import (
	"strings"

	"motley/api"
	"motley/lex"
)

// isLoose reports whether an expression stands in parentheses as an operand.
func isLoose(n api.Node) bool {
	switch n.Op {
	case api.NNeg, api.NNot, api.NBin, api.NLogic, api.NCond, api.NAssign, api.NUpdate, api.NInc, api.NRef:
		return true
	case api.NMy:
		return n.S == "local"
	}
	return isMatching(n) && !isOfTopic(n)
}

// isLooseBeforeArrow reports whether an expression stands in parentheses before `->`.
func isLooseBeforeArrow(n api.Node) bool {
	switch n.Op {
	case api.NSub, api.NDo, api.NEval, api.NEach, api.NMy, api.NNum, api.NStr, api.NJoin, api.NNewHash:
		return true
	}
	return isMatching(n) || isLoose(n)
}

func isMatching(n api.Node) bool {
	return n.Op == api.NMatch || n.Op == api.NSubst || n.Op == api.NTrans
}

// isOfTopic reports whether the subject of a pattern is the one that has no need to be named.
func isOfTopic(n api.Node) bool {
	return n.L[0].Op == api.NScalar && n.L[0].S == "_"
}

// endsInBlock reports whether the last token of an expression is the `}` of a block.
func endsInBlock(n api.Node) bool {
	return n.Op == api.NSub || n.Op == api.NDo || n.Op == api.NEval
}

// opensHash reports whether the first token of an expression is the `{` of an NNewHash.
func opensHash(n api.Node) bool {
	switch n.Op {
	case api.NNewHash:
		return true
	case api.NBin, api.NLogic, api.NCond, api.NMatch, api.NSubst, api.NTrans:
		return n.L[0].Op == api.NNewHash
	}
	return false
}

func (p *printer) operand(n api.Node) {
	p.enclosed(n, isLoose(n))
}

func (p *printer) beforeArrow(n api.Node) {
	p.enclosed(n, isLooseBeforeArrow(n))
}

func (p *printer) operation(n api.Node) {
	switch n.Op {
	case api.NRef:
		p.WriteString(`\`)
		p.operand(n.L[0])
	case api.NNeg:
		p.negation(n.L[0])
	case api.NNot:
		p.WriteString("!")
		p.operand(n.L[0])
	case api.NBin, api.NLogic:
		p.binary(n)
	case api.NCond:
		p.operand(n.L[0])
		p.WriteString(" ? ")
		p.operand(n.L[1])
		p.WriteString(" : ")
		p.operand(n.L[2])
	case api.NAssign:
		p.assigned(n.L[0])
		p.WriteString(" = ")
		p.operand(n.L[1])
	case api.NUpdate:
		p.expr(n.L[0])
		p.WriteString(" " + n.S + " ")
		p.operand(n.L[1])
	case api.NInc:
		before, behind, _ := strings.Cut(n.S, "x")
		p.WriteString(before)
		p.operand(n.L[0])
		p.WriteString(behind)
	}
}

func (p *printer) negation(n api.Node) {
	p.WriteString("-")
	if n.Op == api.NNum {
		p.WriteString(" ")
	}
	p.operand(n)
}

func (p *printer) binary(n api.Node) {
	x, y := n.L[0], n.L[1]
	p.enclosed(x, isLoose(x) || endsInBlock(x) && readsAsTerm(n.S))
	p.WriteString(" " + n.S + " ")
	p.enclosed(y, isLoose(y) || opensHash(y) && lex.IsWord(n.S))
}

// readsAsTerm reports whether an operator would begin a term where one is expected.
func readsAsTerm(operator string) bool {
	switch operator {
	case "/", "//", "%", "&":
		return true
	}
	return false
}

// assigned writes what stands left of `=`, where a list of one part needs no comma.
func (p *printer) assigned(n api.Node) {
	if n.Op == api.NList {
		p.list(n.L)
		return
	}
	p.expr(n)
}
