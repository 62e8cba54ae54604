package tree

import (
	"strings"
	"unicode/utf8"

	"motley/api"
	"motley/lex"
)

// The flags in their order.
const (
	flagsOfPatterns = "imsxg"
	flagsOfTrans    = "cdr"
)

// greatest is the greatest number of a source.
const greatest = 1_000_000_000_000_000 - 1

func areStatements(l []api.Node) bool { return all(l, isStatement) }

func areExprs(l []api.Node) bool { return all(l, isExpr) }

// isStatement reports whether a node is a statement as Parse makes it.
func isStatement(n api.Node) bool {
	switch n.Op {
	case api.NExpr:
		return has(n, "") && len(n.L) == 1 && isExpr(n.L[0])
	case api.NIf:
		return has(n, "") && areBranches(n.L)
	case api.NWhile:
		return has(n, "T") && isLabel(n.T) && len(n.L) == 2 && isExpr(n.L[0]) && isBlock(n.L[1])
	case api.NFor:
		return isLabel(n.T) && isLoopVariable(n.S, n.N) && len(n.L) == 2 && isList(n.L[0]) && isBlock(n.L[1])
	case api.NBlock:
		return has(n, "T") && isLabel(n.T) && areStatements(n.L)
	case api.NDefine:
		return has(n, "S") && IsName(n.S) && isBlockAlone(n.L)
	case api.NPackage:
		return has(n, "S") && IsName(n.S) && len(n.L) == 0
	case api.NReturn:
		return has(n, "") && len(n.L) <= 1 && areExprs(n.L)
	case api.NLeave:
		return has(n, "ST") && (n.S == "last" || n.S == "next") && isLabel(n.T) && len(n.L) == 0
	case api.NPhase:
		return has(n, "S") && (n.S == "BEGIN" || n.S == "END") && isBlockAlone(n.L)
	}
	return false
}

// has reports whether a node has none of S, T and N but those that are named.
func has(n api.Node, fields string) bool {
	return (n.S == "" || strings.Contains(fields, "S")) &&
		(n.T == "" || strings.Contains(fields, "T")) &&
		(n.N == 0 || strings.Contains(fields, "N"))
}

// isLabel reports whether a text is a label, or none at all.
func isLabel(s string) bool { return s == "" || IsName(s) }

func isLoopVariable(name string, own int) bool {
	return own == 0 && name == "_" || own == 1 && isOwnName(name)
}

// isBlock reports whether a node is a block that is part of another node, and so has no label.
func isBlock(n api.Node) bool {
	return n.Op == api.NBlock && n.T == "" && isStatement(n)
}

func isBlockAlone(l []api.Node) bool { return len(l) == 1 && isBlock(l[0]) }

func isList(n api.Node) bool { return n.Op == api.NList && isExpr(n) }

// areBranches reports whether nodes are conditions and blocks by turns, with perhaps a block at the end.
func areBranches(l []api.Node) bool {
	if len(l) < 2 {
		return false
	}
	for i, n := range l {
		isLast := i == len(l)-1
		if i%2 == 0 && !isLast && !isExpr(n) || (i%2 == 1 || isLast) && !isBlock(n) {
			return false
		}
	}
	return true
}

// isExpr reports whether a node is an expression as Parse makes it.
func isExpr(n api.Node) bool {
	switch n.Op {
	case api.NNum, api.NStr, api.NScalar, api.NArray, api.NHash:
		return isLeaf(n)
	case api.NJoin:
		return has(n, "") && areParts(n.L)
	case api.NMy:
		return isDeclaration(n)
	case api.NIndex, api.NKey, api.NSlice, api.NKeys:
		return has(n, "") && areExprs(n.L) && len(n.L) == 2 && isAccess(n)
	case api.NMatch, api.NSubst, api.NTrans:
		return n.N == 0 && isMatching(n)
	case api.NSub, api.NDo, api.NEval:
		return has(n, "") && isBlockAlone(n.L)
	case api.NEach:
		return has(n, "S") && (n.S == "map" || n.S == "grep" || n.S == "sort") && len(n.L) == 2 && isBlock(n.L[0]) && isList(n.L[1])
	}
	return has(n, "S") && areExprs(n.L) && (isOperation(n) || isConstruct(n))
}

func isLeaf(n api.Node) bool {
	if len(n.L) > 0 {
		return false
	}
	switch n.Op {
	case api.NNum:
		return has(n, "N") && n.N >= 0 && n.N <= greatest
	case api.NStr:
		return has(n, "S") && len(n.S) <= api.MaxText && utf8.ValidString(n.S)
	case api.NScalar:
		return has(n, "S") && isScalarName(n.S)
	}
	return has(n, "S") && lex.IsWord(n.S)
}

// areParts reports whether nodes are the parts of a text with interpolation.
func areParts(l []api.Node) bool {
	joins := false
	for i, n := range l {
		if !isExpr(n) {
			return false
		}
		isText := n.Op == api.NStr
		if isText && (n.S == "" || i > 0 && l[i-1].Op == api.NStr) || !isText && !isInterpolated(n) {
			return false
		}
		joins = joins || !isText
	}
	return joins
}

// isInterpolated reports whether an expression is a variable as it stands in texts.
func isInterpolated(n api.Node) bool {
	switch n.Op {
	case api.NScalar, api.NArray:
		return true
	case api.NIndex:
		place := n.L[1]
		return n.L[0].Op == api.NArray && (place.Op == api.NNum || place.Op == api.NScalar && lex.IsWord(place.S))
	case api.NKey:
		return n.L[0].Op == api.NHash && n.L[1].Op == api.NStr && lex.IsWord(n.L[1].S)
	}
	return false
}

func isDeclaration(n api.Node) bool {
	if n.T != "" || !areExprs(n.L) {
		return false
	}
	switch n.S {
	case "my", "our":
		return (n.N == 0 && len(n.L) == 1 || n.N == 1 && len(n.L) > 0) && all(n.L, isOwn)
	case "local":
		return n.N == 0 && len(n.L) == 1 && canLocal(n.L[0])
	}
	return false
}

// isOwn reports whether a node is a variable that `my` and `our` bring in.
func isOwn(n api.Node) bool {
	return (n.Op == api.NScalar || n.Op == api.NArray || n.Op == api.NHash) && isOwnName(n.S)
}

// isAccess reports whether two expressions are a container and what is taken of it.
func isAccess(n api.Node) bool {
	container, of := n.L[0], n.L[1]
	switch n.Op {
	case api.NIndex:
		return isArray(container)
	case api.NKey:
		return isHash(container)
	case api.NSlice:
		return isArray(container) && of.Op == api.NList
	}
	return isHash(container) && of.Op == api.NList
}

func isMatching(n api.Node) bool {
	if !areExprs(n.L) || !isOfSource(n.S) {
		return false
	}
	switch n.Op {
	case api.NMatch:
		return isPattern(n.S) && areFlags(n.T, flagsOfPatterns) && len(n.L) == 1
	case api.NSubst:
		return isPattern(n.S) && areFlags(n.T, flagsOfPatterns) && len(n.L) == 2 && (n.L[1].Op == api.NStr || n.L[1].Op == api.NJoin)
	}
	return isOfSource(n.T) && len(n.L) == 2 && n.L[1].Op == api.NStr && areFlags(n.L[1].S, flagsOfTrans)
}

// isOfSource reports whether a text has only bytes that sources have.
func isOfSource(s string) bool {
	for i := range len(s) {
		if c := s[i]; c != '\t' && c != '\n' && (c < 32 || c > 126) {
			return false
		}
	}
	return true
}

// isPattern reports whether each `\` takes a byte along, and none a `/`.
func isPattern(s string) bool {
	for {
		_, behind, is := strings.Cut(s, `\`)
		if !is {
			return true
		}
		if behind == "" || behind[0] == '/' {
			return false
		}
		s = behind[1:]
	}
}

// areFlags reports whether a text is some of the flags, in their order.
func areFlags(s, flags string) bool {
	for i := range len(s) {
		at := strings.IndexByte(flags, s[i])
		if at < 0 {
			return false
		}
		flags = flags[at+1:]
	}
	return true
}

// isOperation reports whether a node with expressions is an operator with its operands.
func isOperation(n api.Node) bool {
	count := len(n.L)
	switch n.Op {
	case api.NRef, api.NNeg, api.NNot:
		return n.S == "" && count == 1
	case api.NBin, api.NLogic:
		// Which operator it is, is asked of all nodes together.
		return count == 2
	case api.NCond:
		return n.S == "" && count == 3
	case api.NAssign:
		return n.S == "" && count == 2 && canAssign(n.L[0])
	case api.NUpdate:
		return isUpdate(n.S) && count == 2 && canUpdate(n.L[0])
	case api.NInc:
		return isInc(n.S) && count == 1 && canUpdate(n.L[0])
	}
	return false
}

// isConstruct reports whether a node with expressions is a list, what is referred to, or a call.
func isConstruct(n api.Node) bool {
	switch n.Op {
	case api.NList, api.NNewArr, api.NNewHash:
		return n.S == ""
	case api.NDeref:
		return (n.S == "$" || n.S == "@" || n.S == "%") && len(n.L) == 1
	case api.NCallRef:
		return n.S == "" && len(n.L) > 0
	case api.NCall:
		return IsName(n.S)
	case api.NMethod:
		return IsName(n.S) && len(n.L) > 0
	case api.NFunc:
		return takes(n.S, n.L)
	}
	return false
}
