package tree_test

import (
	"fmt"
	"strings"
	"testing"

	"motley/api"
	"motley/tree"
)

// opNames are the names of the operations, as package api has them.
var opNames = map[int]string{
	api.NNum: "Num", api.NStr: "Str", api.NJoin: "Join", api.NMy: "My", api.NScalar: "Scalar", api.NArray: "Array", api.NHash: "Hash",
	api.NIndex: "Index", api.NKey: "Key", api.NSlice: "Slice", api.NKeys: "Keys", api.NDeref: "Deref", api.NRef: "Ref", api.NList: "List",
	api.NNewArr: "NewArr", api.NNewHash: "NewHash", api.NSub: "Sub", api.NCall: "Call", api.NCallRef: "CallRef", api.NMethod: "Method",
	api.NFunc: "Func", api.NNeg: "Neg", api.NNot: "Not", api.NBin: "Bin", api.NLogic: "Logic", api.NCond: "Cond", api.NAssign: "Assign",
	api.NUpdate: "Update", api.NInc: "Inc", api.NMatch: "Match", api.NSubst: "Subst", api.NTrans: "Trans", api.NEach: "Each", api.NDo: "Do",
	api.NEval: "Eval", api.NExpr: "Expr", api.NIf: "If", api.NWhile: "While", api.NFor: "For", api.NBlock: "Block", api.NDefine: "Define",
	api.NPackage: "Package", api.NReturn: "Return", api.NLeave: "Leave", api.NPhase: "Phase",
}

// tell writes a node: variables, numbers and texts short, others as (Op S,T,N parts).
func tell(n api.Node) string {
	plain := n.T == "" && n.N == 0 && len(n.L) == 0
	switch {
	case n.Op == api.NScalar && plain:
		return "$" + n.S
	case n.Op == api.NArray && plain:
		return "@" + n.S
	case n.Op == api.NHash && plain:
		return "%" + n.S
	case n.Op == api.NStr && plain:
		return fmt.Sprintf("'%s'", n.S)
	case n.Op == api.NNum && n.S == "" && n.T == "" && len(n.L) == 0:
		return fmt.Sprint(n.N)
	}
	s := "(" + opNames[n.Op]
	if n.S != "" {
		s += " " + n.S
	}
	if n.T != "" {
		s += " T=" + n.T
	}
	if n.N != 0 {
		s += fmt.Sprint(" N=", n.N)
	}
	return s + tellAll(n.L) + ")"
}

func tellAll(l []api.Node) string {
	var b strings.Builder
	for _, n := range l {
		b.WriteString(" " + tell(n))
	}
	return b.String()
}

// told is tell of the program of a source, or its error with the place.
func told(s string) string {
	p, n, e := tree.Parse(s)
	if e != api.OK {
		return fmt.Sprintf("error %d at %d", e, n)
	}
	return strings.TrimPrefix(tellAll(p), " ")
}

// toldExpr is told for a source that is one expression.
func toldExpr(s string) string {
	x, n, e := tree.ParseExpr(s)
	if e != api.OK {
		return fmt.Sprintf("error %d at %d", e, n)
	}
	return tell(x)
}

// hold holds what is told of sources against what should be.
func hold(t *testing.T, tell func(string) string, cases [][2]string) {
	t.Helper()
	for _, c := range cases {
		if got := tell(c[0]); got != c[1] {
			t.Errorf("%q: %s\nnot %s", c[0], got, c[1])
		}
	}
}

// misfit is what is told of a source whose token of a number does not fit.
func misfit(n int) string { return fmt.Sprintf("error 2 at %d", n) }

// long is a text n times.
func long(s string, n int) string { return strings.Repeat(s, n) }
