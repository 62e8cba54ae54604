package tree_test

import (
	"math/rand"
	"testing"

	"motley/api"
	"motley/tree"
)

// maker makes random programs that are valid.
type maker struct{ r *rand.Rand }

func one[T any](m maker, l ...T) T { return l[m.r.Intn(len(l))] }

func (m maker) word() string {
	return one(m, "a", "b", "x", "if", "print", "_", "A::b", "abcdefghijkl", "q", "k1")
}

func (m maker) own() string  { return one(m, "a", "b", "x", "my", "print", "_a") }
func (m maker) name() string { return one(m, "f", "g", "A::b", "_", "If", "code1") }

func (m maker) scalar() string {
	if m.r.Intn(4) == 0 {
		return one(m, "@", "&", "1", "9")
	}
	return m.word()
}

func (m maker) text() string {
	return one(m, "", "a", "a b", "'", `"`, `\`, `\n`, "\n", "\t", "$x", "@x", "[0]", "{a}", "/", "ä", "\x00", "\U0010ffff", "x$", "€'\\")
}

func nd(op int, s string, l ...api.Node) api.Node { return api.Node{Op: op, S: s, L: l} }

func (m maker) exprs(depth, least, most int) []api.Node {
	var l []api.Node
	for range least + m.r.Intn(most-least+1) {
		l = append(l, m.expr(depth-1))
	}
	return l
}

func (m maker) block(depth int) api.Node {
	return nd(api.NBlock, "", m.statements(depth-1, 2)...)
}

func (m maker) statements(depth, most int) []api.Node {
	var l []api.Node
	for range m.r.Intn(most + 1) {
		l = append(l, m.statement(depth))
	}
	return l
}

func (m maker) label() string {
	if m.r.Intn(2) == 0 {
		return ""
	}
	return m.name()
}

func (m maker) statement(depth int) api.Node {
	kind := m.r.Intn(10)
	if depth <= 1 {
		kind = one(m, 0, 6, 8)
	}
	switch kind {
	case 1:
		n := nd(api.NIf, "", m.expr(depth-1), m.block(depth-1))
		for range m.r.Intn(3) {
			n.L = append(n.L, m.expr(depth-1), m.block(depth-1))
		}
		if m.r.Intn(2) == 0 {
			n.L = append(n.L, m.block(depth-1))
		}
		return n
	case 2:
		return api.Node{Op: api.NWhile, T: m.label(), L: []api.Node{m.expr(depth - 1), m.block(depth - 1)}}
	case 3:
		n := api.Node{Op: api.NFor, T: m.label(), S: "_", L: []api.Node{nd(api.NList, "", m.exprs(depth-1, 0, 2)...), m.block(depth - 1)}}
		if m.r.Intn(2) == 0 {
			n.S, n.N = m.own(), 1
		}
		return n
	case 4:
		return api.Node{Op: api.NBlock, T: m.label(), L: m.statements(depth-1, 2)}
	case 5:
		return nd(api.NDefine, m.name(), m.block(depth-1))
	case 6:
		return nd(api.NPackage, m.name())
	case 7:
		return nd(api.NReturn, "", m.exprs(depth, 0, 1)...)
	case 8:
		return api.Node{Op: api.NLeave, S: one(m, "last", "next"), T: m.label()}
	case 9:
		return nd(api.NPhase, one(m, "BEGIN", "END"), m.block(depth-1))
	}
	return nd(api.NExpr, "", m.expr(depth-1))
}

func (m maker) leaf() api.Node {
	switch m.r.Intn(6) {
	case 0:
		return api.Node{Op: api.NNum, N: one(m, 0, 1, 12, 999999999999999)}
	case 1:
		return nd(api.NStr, m.text())
	case 2:
		return nd(api.NArray, m.word())
	case 3:
		return nd(api.NHash, m.word())
	}
	return nd(api.NScalar, m.scalar())
}

func (m maker) array(depth int) api.Node {
	if m.r.Intn(2) == 0 {
		return nd(api.NArray, m.word())
	}
	return nd(api.NDeref, "@", m.expr(depth-1))
}

func (m maker) hash(depth int) api.Node {
	if m.r.Intn(2) == 0 {
		return nd(api.NHash, m.word())
	}
	return nd(api.NDeref, "%", m.expr(depth-1))
}

func (m maker) element(depth int) api.Node {
	if m.r.Intn(2) == 0 {
		return nd(api.NIndex, "", m.array(depth-1), m.expr(depth-1))
	}
	return nd(api.NKey, "", m.hash(depth-1), m.expr(depth-1))
}

func (m maker) slice(depth int) api.Node {
	l := nd(api.NList, "", m.exprs(depth-1, 0, 2)...)
	if m.r.Intn(2) == 0 {
		return nd(api.NSlice, "", m.array(depth-1), l)
	}
	return nd(api.NKeys, "", m.hash(depth-1), l)
}

func (m maker) place(depth int) api.Node {
	switch m.r.Intn(3) {
	case 0:
		return m.element(depth)
	case 1:
		return nd(api.NDeref, "$", m.expr(depth-1))
	}
	return nd(api.NScalar, m.scalar())
}

func (m maker) declaration(depth int) api.Node {
	if m.r.Intn(3) == 0 {
		return nd(api.NMy, "local", m.local(depth-1))
	}
	n := api.Node{Op: api.NMy, S: one(m, "my", "our"), N: m.r.Intn(2)}
	for range 1 + n.N*m.r.Intn(3) {
		n.L = append(n.L, nd(one(m, api.NScalar, api.NArray, api.NHash), m.own()))
	}
	return n
}

// updated makes one scalar that can be assigned, and is perhaps declared there.
func (m maker) updated(depth int) api.Node {
	switch m.r.Intn(6) {
	case 0:
		return nd(api.NMy, one(m, "my", "our"), nd(api.NScalar, m.own()))
	case 1:
		return nd(api.NMy, "local", one(m, nd(api.NScalar, m.scalar()), m.element(depth)))
	}
	return m.place(depth)
}

func (m maker) local(depth int) api.Node {
	switch m.r.Intn(4) {
	case 0:
		return nd(one(m, api.NScalar, api.NArray, api.NHash), m.word())
	case 1:
		return m.slice(depth)
	case 2:
		if depth > 0 {
			n := nd(api.NList, "")
			for range m.r.Intn(3) {
				n.L = append(n.L, m.local(depth-1))
			}
			return n
		}
	}
	return m.element(depth)
}

func (m maker) left(depth int) api.Node {
	switch m.r.Intn(5) {
	case 0:
		if depth > 0 {
			n := nd(api.NList, "")
			for range m.r.Intn(3) {
				n.L = append(n.L, one(m, m.left(depth-1), nd(api.NFunc, "undef")))
			}
			return n
		}
	case 1:
		return m.slice(depth)
	case 2:
		return one(m, m.array(depth), m.hash(depth))
	case 3:
		return m.declaration(depth)
	}
	return m.place(depth)
}

// join makes a text with parts.
func (m maker) join() api.Node {
	n := nd(api.NJoin, "")
	joins := false
	for range 1 + m.r.Intn(4) {
		last := len(n.L) - 1
		switch m.r.Intn(5) {
		case 0:
			n.L = append(n.L, nd(api.NScalar, m.scalar()))
		case 1:
			n.L = append(n.L, nd(api.NArray, m.word()))
		case 2:
			place := one(m, api.Node{Op: api.NNum, N: one(m, 0, 12, 999999999999999)}, nd(api.NScalar, m.word()))
			n.L = append(n.L, nd(api.NIndex, "", nd(api.NArray, m.word()), place))
		case 3:
			n.L = append(n.L, nd(api.NKey, "", nd(api.NHash, m.word()), nd(api.NStr, m.word())))
		default:
			if s := m.text(); s != "" && (last < 0 || n.L[last].Op != api.NStr) {
				n.L = append(n.L, nd(api.NStr, s))
			}
			continue
		}
		joins = true
	}
	if !joins {
		return nd(api.NStr, m.text())
	}
	return n
}

func (m maker) function(depth int) api.Node {
	a := one(m, listedArities()...)
	most := a.most
	if most < 0 {
		most = a.least + 2
	}
	n := nd(api.NFunc, a.name, m.exprs(depth, a.least, most)...)
	if len(n.L) == 0 {
		return n
	}
	switch kinds := firsts(a.name); kinds {
	case "array":
		n.L[0] = m.array(depth - 1)
	case "hash":
		n.L[0] = m.hash(depth - 1)
	case "element":
		n.L[0] = m.element(depth - 1)
	case "scalar element":
		n.L[0] = m.place(depth - 1)
	case "array hash scalar element":
		n.L[0] = one(m, m.array(depth-1), m.hash(depth-1), m.place(depth-1))
	case "match":
		n.L[0] = api.Node{Op: api.NMatch, S: ",", L: []api.Node{m.expr(depth - 1)}}
	}
	return n
}

func (m maker) matching(depth int) api.Node {
	pattern := one(m, "", "a", `\\`, `a\.b`, "/", `\\/`, "a b\n", `[/]`, `\"`)
	flags := one(m, "", "i", "g", "imsxg", "mg")
	subject := one(m, nd(api.NScalar, "_"), m.expr(depth-1))
	switch m.r.Intn(3) {
	case 0:
		return api.Node{Op: api.NMatch, S: pattern, T: flags, L: []api.Node{subject}}
	case 1:
		return api.Node{Op: api.NSubst, S: pattern, T: flags, L: []api.Node{subject, m.join()}}
	}
	text := func() string { return one(m, "", "a-z", "/", `\`, `a\/'"`, "\n$x") }
	return api.Node{Op: api.NTrans, S: text(), T: text(), L: []api.Node{subject, nd(api.NStr, one(m, "", "c", "d", "r", "cdr", "cr"))}}
}

func (m maker) expr(depth int) api.Node {
	if depth <= 1 {
		return m.leaf()
	}
	x := func() api.Node { return m.expr(depth - 1) }
	switch m.r.Intn(24) {
	case 0:
		return m.join()
	case 1:
		return m.declaration(depth)
	case 2:
		return m.element(depth)
	case 3:
		return m.slice(depth)
	case 4:
		return nd(api.NDeref, one(m, "$", "@", "%"), x())
	case 5:
		return nd(one(m, api.NList, api.NNewArr, api.NNewHash), "", m.exprs(depth, 0, 3)...)
	case 6:
		return nd(api.NSub, "", m.block(depth-1))
	case 7:
		return nd(api.NCall, m.name(), m.exprs(depth, 0, 3)...)
	case 8:
		return nd(api.NCallRef, "", m.exprs(depth, 1, 3)...)
	case 9:
		return nd(api.NMethod, m.name(), m.exprs(depth, 1, 3)...)
	case 10, 11:
		return m.function(depth)
	case 12:
		return nd(one(m, api.NNeg, api.NNot, api.NRef), "", x())
	case 13, 14:
		return nd(api.NBin, one(m, "+", "-", "*", "/", "%", "x", ".", "..", "&", "|", "^", "==", "!=", "<", ">", "<=", ">=", "<=>", "eq", "ne", "lt", "gt", "le", "ge", "cmp"), x(), x())
	case 15:
		return nd(api.NLogic, one(m, "||", "&&", "//"), x(), x())
	case 16:
		return nd(api.NCond, "", x(), x(), x())
	case 17:
		return nd(api.NAssign, "", m.left(depth-1), x())
	case 18:
		return nd(api.NUpdate, one(m, updates...), m.updated(depth-1), x())
	case 19:
		return nd(api.NInc, one(m, "++x", "x++", "--x", "x--"), m.updated(depth-1))
	case 20, 21:
		return m.matching(depth)
	case 22:
		return nd(api.NEach, one(m, "map", "grep", "sort"), m.block(depth-1), nd(api.NList, "", m.exprs(depth, 0, 2)...))
	}
	return nd(one(m, api.NDo, api.NEval), "", m.block(depth-1))
}

// readAgain reports whether what is read from what is written of nodes is the Same; it cannot be told if this is too large.
func readAgain(r *rand.Rand, p []api.Node) (same, told bool, s string) {
	s = writer{r}.statements(p)
	q, _, e := tree.Parse(s)
	return e == api.OK && tree.Same(p, q), e != api.ErrLarge, s
}

// P4.1 (Consequence): a valid program is read from its text.
func TestValidProgramsAreRead(t *testing.T) {
	r := rand.New(rand.NewSource(4))
	m := maker{r}
	large := 0
	for i := range 6000 {
		p := m.statements(2+i%5, 3)
		n, nest := measure(p)
		if n > api.MaxNodes || nest > api.MaxNest {
			large++
			continue
		}
		if e := tree.Validate(p); e != api.OK {
			t.Fatalf("Validate of %s: %d", tellAll(p), e)
		}
		if same, told, s := readAgain(r, p); !same && told {
			t.Fatalf("%s\nis read from %q as %s", tellAll(p), s, tellAll(firstOf(tree.Parse(s))))
		}
	}
	if large > 3000 {
		t.Errorf("%d programs were too large", large)
	}
}

func firstOf(p []api.Node, _ int, _ api.Errno) []api.Node { return p }

// measure is how many nodes there are, and how many in each other.
func measure(l []api.Node) (int, int) {
	n, nest := 0, 0
	for _, x := range l {
		m, deep := measure(x.L)
		n += 1 + m
		nest = max(nest, 1+deep)
	}
	return n, nest
}

// change changes one field of one of the nodes.
func (m maker) change(p []api.Node) {
	var all []*api.Node
	var look func(l []api.Node)
	look = func(l []api.Node) {
		for i := range l {
			all = append(all, &l[i])
			look(l[i].L)
		}
	}
	look(p)
	n := one(m, all...)
	texts := []string{"", "a", "_", "f", "if", "print", "x", "1", "@", "&", "$", "%", "A::b", "a::", "abcdefghijklm", "a b", "+", "+=", "=", "||", "or", "and", "not", "++", "++x", "x--", "-x", "my", "our", "local", "map", "sort", "last", "next", "BEGIN", "END", "undef", "pop", "keys", "i", "gi", "ig", "ii", "c", "rd", "dr", `\`, `\/`, `a\`, `\\/`, "ä", "\xff", "\n", "a'b", "SUPER::m", "10", "=~", "->", ".."}
	switch m.r.Intn(6) {
	case 0:
		n.S = one(m, texts...)
	case 1:
		n.T = one(m, texts...)
	case 2:
		n.N = one(m, -1, 0, 1, 2, 15, 999999999999999, 1000000000000000)
	case 3:
		n.Op = m.r.Intn(52) - 1
	case 4:
		if len(n.L) == 0 || m.r.Intn(2) == 0 {
			n.L = append(n.L, one(m, m.expr(2), m.expr(3), m.statement(2), m.block(2)))
			break
		}
		n.L = n.L[:len(n.L)-1]
	case 5:
		*n = one(m, m.expr(1), m.expr(3), m.statement(3), m.block(2))
	}
}

// P4.1: a program that is changed somewhere is valid just if it is read from its text.
func TestChangedPrograms(t *testing.T) {
	r := rand.New(rand.NewSource(44))
	m := maker{r}
	valid, invalid := 0, 0
	for i := range 40000 {
		p := m.statements(2+i%4, 2)
		if len(p) == 0 {
			continue
		}
		for range 1 + r.Intn(2) {
			m.change(p)
		}
		e := tree.Validate(p)
		if n, nest := measure(p); n > api.MaxNodes || nest > api.MaxNest {
			if e != api.ErrLarge {
				t.Fatalf("Validate of %d nodes, %d in each other: %d", n, nest, e)
			}
			continue
		}
		same, told, s := readAgain(r, p)
		if !told {
			continue
		}
		if (e == api.OK) != same || e != api.OK && e != api.ErrArg {
			t.Fatalf("Validate of %s: %d\nread from %q: %s", tellAll(p), e, s, tellAll(firstOf(tree.Parse(s))))
		}
		if same {
			valid++
		} else {
			invalid++
		}
	}
	if valid < 3000 || invalid < 3000 {
		t.Errorf("%d valid, %d not", valid, invalid)
	}
}
