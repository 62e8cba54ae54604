package tree

import (
	"slices"

	"motley/api"
)

// Counts returns how many nodes a program has, and the greatest number of them in each other.
func Counts(p []api.Node) (int, int, api.Errno) {
	if e := Validate(p); e != api.OK {
		return 0, 0, e
	}
	n, nest := counts(p)
	return n, nest, api.OK
}

func counts(l []api.Node) (int, int) {
	all, most := len(l), 0
	for _, x := range l {
		n, nest := counts(x.L)
		all += n
		most = max(most, 1+nest)
	}
	return all, most
}

// isLarge reports whether there are more nodes than a program may have, in all or in each other. It looks at no more of them than it takes to know.
func isLarge(l []api.Node) bool {
	left := api.MaxNodes
	var fit func(l []api.Node, nest int) bool
	fit = func(l []api.Node, nest int) bool {
		for _, x := range l {
			left--
			if left < 0 || nest > api.MaxNest || !fit(x.L, nest+1) {
				return false
			}
		}
		return true
	}
	return !fit(l, 1)
}

// Subs returns the set of the names of the subs that a program defines.
func Subs(p []api.Node) ([]string, api.Errno) {
	return set(p, func(x api.Node) (string, bool) { return x.S, x.Op == api.NDefine })
}

// Names returns the set of the names of the variables of a program, with their sigils.
func Names(p []api.Node) ([]string, api.Errno) {
	return set(p, func(x api.Node) (string, bool) {
		switch x.Op {
		case api.NScalar:
			return "$" + x.S, true
		case api.NArray:
			return "@" + x.S, true
		case api.NHash:
			return "%" + x.S, true
		case api.NFor:
			return "$" + x.S, x.N == 1
		}
		return "", false
	})
}

// set returns the set of the texts that some of the nodes of a program have.
func set(p []api.Node, of func(api.Node) (string, bool)) ([]string, api.Errno) {
	if e := Validate(p); e != api.OK {
		return nil, e
	}
	var found []string
	var look func(l []api.Node)
	look = func(l []api.Node) {
		for _, x := range l {
			if s, is := of(x); is {
				found = append(found, s)
			}
			look(x.L)
		}
	}
	look(p)
	slices.Sort(found)
	return slices.Compact(found), api.OK
}

// At returns the node at the end of a path.
func At(p []api.Node, path []int) (api.Node, bool, api.Errno) {
	if e := Validate(p); e != api.OK {
		return api.Node{}, false, e
	}
	x := find(p, path)
	if x == nil {
		return api.Node{}, false, api.ErrNone
	}
	return Copy([]api.Node{*x})[0], true, api.OK
}

// Replace returns a program with another node at the end of a path.
func Replace(p []api.Node, path []int, n api.Node) ([]api.Node, api.Errno) {
	if e := Validate(p); e != api.OK {
		return nil, e
	}
	q := Copy(p)
	x := find(q, path)
	if x == nil {
		return nil, api.ErrNone
	}
	*x = n
	// What is put in may be of any size, and is copied only when it is known to be small.
	if e := Validate(q); e != api.OK {
		return nil, e
	}
	x.L = Copy(n.L)
	return q, api.OK
}

// find returns where the node at the end of a path is kept (nil if the path leads nowhere).
func find(l []api.Node, path []int) *api.Node {
	var x *api.Node
	for _, i := range path {
		if i < 0 || i >= len(l) {
			return nil
		}
		x = &l[i]
		l = x.L
	}
	return x
}

// Copy returns nodes that share no memory with others.
func Copy(p []api.Node) []api.Node {
	l := slices.Clone(p)
	for i := range l {
		l[i].L = Copy(l[i].L)
	}
	return l
}

// Same reports whether nodes are equal in all fields.
func Same(p, q []api.Node) bool {
	return slices.EqualFunc(p, q, func(x, y api.Node) bool {
		return x.Op == y.Op && x.S == y.S && x.T == y.T && x.N == y.N && Same(x.L, y.L)
	})
}
