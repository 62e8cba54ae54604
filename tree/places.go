package tree

import "motley/api"

func isArray(x api.Node) bool {
	return x.Op == api.NArray || x.Op == api.NDeref && x.S == "@"
}

func isHash(x api.Node) bool {
	return x.Op == api.NHash || x.Op == api.NDeref && x.S == "%"
}

func isElement(x api.Node) bool {
	return x.Op == api.NIndex || x.Op == api.NKey
}

// isPlace reports whether a node is a scalar that can be assigned.
func isPlace(x api.Node) bool {
	return x.Op == api.NScalar || isElement(x) || x.Op == api.NDeref && x.S == "$"
}

// canAssign reports whether a node may stand left of `=`.
func canAssign(x api.Node) bool {
	switch x.Op {
	case api.NArray, api.NHash, api.NSlice, api.NKeys, api.NDeref, api.NMy:
		// There is no NDeref of `&`: what it refers to is called.
		return true
	case api.NList:
		return all(x.L, func(y api.Node) bool { return canAssign(y) || passesOver(y) })
	}
	return isPlace(x)
}

// passesOver reports whether a node on the left side passes over a value.
func passesOver(x api.Node) bool {
	return x.Op == api.NFunc && x.S == "undef" && len(x.L) == 0
}

// canUpdate reports whether a node may stand left of `+=` and its like, and before or behind `++` and `--`: whether it is one scalar that can be assigned, also where it is declared there.
func canUpdate(x api.Node) bool {
	if x.Op == api.NMy && x.N == 0 {
		return isPlace(x.L[0])
	}
	return isPlace(x)
}

// canLocal reports whether a node may stand behind `local`.
func canLocal(x api.Node) bool {
	switch x.Op {
	case api.NScalar, api.NArray, api.NHash, api.NIndex, api.NKey, api.NSlice, api.NKeys:
		return true
	case api.NList:
		return all(x.L, canLocal)
	}
	return false
}

func all(l []api.Node, is func(api.Node) bool) bool {
	for _, x := range l {
		if !is(x) {
			return false
		}
	}
	return true
}
