package tree

import "motley/api"

// The levels of operators between two operands, from the one that binds least on.
const (
	orLevel = iota
	andLevel
	rangeLevel
	eitherLevel
	bothLevel
	bitsLevel
	equalLevel
	relLevel
	sumLevel
	prodLevel
	levelCount
)

// levels returns for each level its operators, with the node that each makes.
func levels() [levelCount]map[string]api.Node {
	return [levelCount]map[string]api.Node{
		orLevel:     {"or": {Op: api.NLogic, S: "||"}},
		andLevel:    {"and": {Op: api.NLogic, S: "&&"}},
		rangeLevel:  operators(api.NBin, ".."),
		eitherLevel: operators(api.NLogic, "||", "//"),
		bothLevel:   operators(api.NLogic, "&&"),
		bitsLevel:   operators(api.NBin, "&", "|", "^"),
		equalLevel:  operators(api.NBin, "==", "!=", "<=>", "eq", "ne", "cmp"),
		relLevel:    operators(api.NBin, "<", ">", "<=", ">=", "lt", "gt", "le", "ge"),
		sumLevel:    operators(api.NBin, "+", "-", "."),
		prodLevel:   operators(api.NBin, "*", "/", "%", "x"),
	}
}

// operators is a level of operators that nodes name as sources do.
func operators(op int, texts ...string) map[string]api.Node {
	l := map[string]api.Node{}
	for _, s := range texts {
		l[s] = api.Node{Op: op, S: s}
	}
	return l
}

// isOnce reports whether a level has no second operator behind its first.
func isOnce(level int) bool {
	return level == rangeLevel || level == equalLevel || level == relLevel
}

// haveOperators reports whether each node with an operator between two operands has one of some levels.
func haveOperators(l []api.Node, levels [levelCount]map[string]api.Node) bool {
	return all(l, func(x api.Node) bool {
		return (x.Op != api.NBin && x.Op != api.NLogic || isOperator(x, levels)) && haveOperators(x.L, levels)
	})
}

// isOperator reports whether the operator of a node is one of some levels.
func isOperator(x api.Node, levels [levelCount]map[string]api.Node) bool {
	for _, l := range levels {
		if n, is := l[x.S]; is && n.Op == x.Op && n.S == x.S {
			return true
		}
	}
	return false
}

func isUpdate(s string) bool {
	switch s {
	case "+=", "-=", "*=", "/=", "%=", ".=", "||=", "&&=", "//=":
		return true
	}
	return false
}

func isStep(s string) bool { return s == "++" || s == "--" }

// isInc reports whether a text is a step as nodes have it, with its side.
func isInc(s string) bool {
	return s == "++x" || s == "x++" || s == "--x" || s == "x--"
}

// expr reads an expression, whose operators are those of all levels.
func (p *parser) expr() api.Node {
	return p.joined(orLevel)
}

// joined reads operands with operators of a level between them, which are grouped from the left.
func (p *parser) joined(level int) api.Node {
	x := p.operand(level)
	for {
		n, is := p.operator(level)
		if !is {
			return x
		}
		y := p.operand(level)
		n.L = []api.Node{x, y}
		x = n
		if isOnce(level) {
			return x
		}
	}
}

// operand reads what stands on both sides of an operator of a level.
func (p *parser) operand(level int) api.Node {
	switch level {
	case andLevel:
		return p.negated()
	case prodLevel:
		return p.bound()
	}
	return p.joined(level + 1)
}

// operator passes an operator of a level, if it is the next token, and returns its node.
func (p *parser) operator(level int) (api.Node, bool) {
	t := p.ahead(0)
	if t.Kind != api.KWord && t.Kind != api.KSign {
		return api.Node{}, false
	}
	n, is := p.levels[level][t.Text]
	if is {
		p.at++
	}
	return n, is
}

func (p *parser) negated() api.Node {
	if p.pass("not") {
		return node(api.NNot, p.negated())
	}
	return p.assigned()
}

// assigned reads an assignment, or what could stand left of one.
func (p *parser) assigned() api.Node {
	x := p.conditional()
	t := p.ahead(0)
	n, can := node(api.NAssign), canAssign
	switch {
	case t.Kind == api.KSign && isUpdate(t.Text):
		n, can = api.Node{Op: api.NUpdate, S: t.Text}, canUpdate
	case !is(t, "="):
		return x
	}
	if !can(x) {
		p.leave()
	}
	p.at++
	y := p.assigned()
	n.L = []api.Node{x, y}
	return n
}

func (p *parser) conditional() api.Node {
	x := p.joined(rangeLevel)
	if !p.pass("?") {
		return x
	}
	y := p.assigned()
	p.want(":")
	z := p.assigned()
	return node(api.NCond, x, y, z)
}

// bound reads what may be bound to a pattern.
func (p *parser) bound() api.Node {
	x := p.unary()
	switch {
	case p.pass("=~"):
		return p.matched(x)
	case p.pass("!~"):
		return node(api.NNot, p.matched(x))
	}
	return x
}

// matched reads a pattern, a replacement or a transliteration of a subject.
func (p *parser) matched(x api.Node) api.Node {
	t := p.ahead(0)
	n := api.Node{S: t.Text, T: t.More, L: []api.Node{x}}
	switch t.Kind {
	case api.KPat:
		n.Op = api.NMatch
	case api.KSubst:
		n.Op = api.NSubst
		n.L = append(n.L, inter(t.Repl))
	case api.KTrans:
		n.Op, n.T = api.NTrans, t.Repl
		n.L = append(n.L, text(t.More))
	default:
		p.leave()
	}
	p.at++
	return n
}

func (p *parser) unary() api.Node {
	switch {
	case p.pass("!"):
		return node(api.NNot, p.unary())
	case p.pass("-"):
		return node(api.NNeg, p.unary())
	case p.pass(`\`):
		return node(api.NRef, p.unary())
	case p.seesStep():
		return p.steppedBefore()
	}
	x := p.post()
	if !p.seesStep() {
		return x
	}
	if !canUpdate(x) {
		p.leave()
	}
	return api.Node{Op: api.NInc, S: "x" + p.take().Text, L: []api.Node{x}}
}

// seesStep reports whether the next token is `++` or `--`.
func (p *parser) seesStep() bool {
	t := p.ahead(0)
	return t.Kind == api.KSign && isStep(t.Text)
}

// steppedBefore reads something with `++` or `--` before it.
func (p *parser) steppedBefore() api.Node {
	at := p.at
	n := api.Node{Op: api.NInc, S: p.take().Text + "x"}
	x := p.unary()
	if !canUpdate(x) {
		panic(misfit(at))
	}
	n.L = []api.Node{x}
	return n
}
