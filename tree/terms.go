package tree

import (
	"strconv"
	"strings"

	"motley/api"
)

// What may stand directly behind a post: an arrow alone, or behind calls a `(` too, or behind elements a `[` and a `{` of a subscript too.
const (
	arrows = iota
	calls
	subscripts
)

// mostDigits is how many digits a number of a source has at most.
const mostDigits = 15

// post reads a term and what goes on behind it.
func (p *parser) post() api.Node {
	x, behind := p.primary()
	for {
		switch {
		case p.pass("->"):
			x, behind = p.arrow(x)
		case behind == subscripts && p.sees("["):
			x = p.index(deref("@", x))
		case behind == subscripts && p.opens(subscript):
			x = p.key(deref("%", x))
		case behind != arrows && p.sees("("):
			x, behind = p.call(x), calls
		default:
			return x
		}
	}
}

// arrow reads what stands behind the arrow of something.
func (p *parser) arrow(x api.Node) (api.Node, int) {
	switch {
	case p.sees("["):
		return p.index(deref("@", x)), subscripts
	case p.opens(subscript):
		return p.key(deref("%", x)), subscripts
	case p.sees("("):
		return p.call(x), calls
	}
	n := api.Node{Op: api.NMethod, S: p.name(), L: []api.Node{x}}
	if p.sees("(") {
		n.L = append(n.L, p.list("(", ")").L...)
	}
	return n, arrows
}

// index reads the place of an element of an array.
func (p *parser) index(container api.Node) api.Node {
	p.want("[")
	x := p.expr()
	p.want("]")
	return node(api.NIndex, container, x)
}

// key reads the key of an element of a hash.
func (p *parser) key(container api.Node) api.Node {
	p.wantOpen(subscript)
	x := p.keyText()
	p.want("}")
	return node(api.NKey, container, x)
}

func (p *parser) keyText() api.Node {
	t := p.ahead(0)
	// A word that begins no expression still can be a key, so it is what stands behind it that does not fit.
	if t.Kind == api.KWord && (is(p.ahead(1), "}") || !beginsExpr(t.Text)) {
		p.at++
		return text(t.Text)
	}
	return p.expr()
}

// call reads the arguments of a call of a code.
func (p *parser) call(code api.Node) api.Node {
	args := p.list("(", ")")
	return node(api.NCallRef, append([]api.Node{code}, args.L...)...)
}

// list reads a list between two signs.
func (p *parser) list(from, to string) api.Node {
	p.want(from)
	l, _ := p.rest(to)
	return node(api.NList, l...)
}

// rest reads a list and the sign that ends it, and reports whether there was a comma.
func (p *parser) rest(to string) ([]api.Node, bool) {
	var l []api.Node
	comma := false
	for !p.pass(to) {
		x := p.assigned()
		l = append(l, x)
		if p.pass(to) {
			break
		}
		comma = true
		if p.pass(",") {
			continue
		}
		// Behind a `=>`, other than behind a comma, the list must go on.
		p.want("=>")
		if p.sees(to) {
			p.leave()
		}
	}
	return l, comma
}

// primary reads a term, and returns what may stand directly behind it.
func (p *parser) primary() (api.Node, int) {
	t := p.ahead(0)
	switch {
	case t.Kind == api.KVar:
		p.at++
		return p.variable(t.Text[:1], t.Text[1:])
	case isSigil(t):
		p.at++
		x := p.referent()
		if t.Text == "&" {
			return p.call(x), arrows
		}
		return p.access(t.Text, func(sigil string) api.Node { return deref(sigil, x) })
	}
	return p.term(), arrows
}

func (p *parser) variable(sigil, name string) (api.Node, int) {
	named := func(sigil string) api.Node { return variable(sigil, name) }
	switch {
	case sigil == "&":
		return p.call(named("$")), arrows
	case isSpecial(name):
		// No array and no hash has such a name, so this is no element of one.
		return named(sigil), arrows
	}
	return p.access(sigil, named)
}

// referent reads what a sigil refers to.
func (p *parser) referent() api.Node {
	if p.opens(subscript) {
		p.at++
		x := p.expr()
		p.want("}")
		return x
	}
	t := p.ahead(0)
	if t.Kind != api.KVar || t.Text[0] != '$' {
		p.leave()
	}
	p.at++
	return variable("$", t.Text[1:])
}

// access reads what stands behind a sigil and a name or reference; of returns what that is with a sigil.
func (p *parser) access(sigil string, of func(sigil string) api.Node) (api.Node, int) {
	places, keys := p.sees("["), p.opens(subscript)
	switch {
	case sigil == "$" && places:
		return p.index(of("@")), subscripts
	case sigil == "$" && keys:
		return p.key(of("%")), subscripts
	case sigil == "@" && places:
		return node(api.NSlice, of("@"), p.list("[", "]")), arrows
	case sigil == "@" && keys:
		return node(api.NKeys, of("%"), p.list("{", "}")), arrows
	}
	return of(sigil), arrows
}

// term reads a term that begins with no sigil.
func (p *parser) term() api.Node {
	t := p.ahead(0)
	switch t.Kind {
	case api.KNum:
		return p.number()
	case api.KStr:
		p.at++
		return text(t.Text)
	case api.KInter:
		p.at++
		return inter(t.Text)
	case api.KWords:
		p.at++
		return words(t.Text)
	case api.KPat, api.KSubst, api.KTrans:
		return p.matched(variable("$", "_"))
	case api.KWord:
		return p.wordTerm(t.Text)
	}
	switch {
	case p.pass("("):
		return p.parentheses()
	case p.sees("["):
		return node(api.NNewArr, p.list("[", "]").L...)
	case p.opens(hash):
		return node(api.NNewHash, p.list("{", "}").L...)
	}
	panic(misfit(p.at))
}

func (p *parser) number() api.Node {
	n, is := number(p.ahead(0).Text)
	if !is {
		p.leave()
	}
	p.at++
	return api.Node{Op: api.NNum, N: n}
}

// number returns the number that digits write, and whether they are as sources write one.
func number(digits string) (int, bool) {
	if len(digits) > mostDigits || len(digits) > 1 && digits[0] == '0' || strings.Trim(digits, "0123456789") != "" {
		return 0, false
	}
	n, err := strconv.Atoi(digits)
	return n, err == nil
}

// words returns the list of some words.
func words(s string) api.Node {
	n := node(api.NList)
	for _, word := range strings.Fields(s) {
		n.L = append(n.L, text(word))
	}
	return n
}

// parentheses reads what stands behind a `(` of a term.
func (p *parser) parentheses() api.Node {
	l, comma := p.rest(")")
	if len(l) == 1 && !comma && !p.sees("=") {
		return l[0]
	}
	return node(api.NList, l...)
}

// wordTerm reads a term that begins with a word.
func (p *parser) wordTerm(word string) api.Node {
	if is(p.ahead(1), "=>") {
		p.at++
		return text(word)
	}
	switch word {
	case "my", "our":
		return p.declaration()
	case "local":
		return p.local()
	case "sub":
		return p.blockTerm(api.NSub)
	case "do":
		return p.blockTerm(api.NDo)
	case "eval":
		return p.blockTerm(api.NEval)
	case "map", "grep", "sort":
		return p.each()
	}
	if isFunction(word) {
		return p.function()
	}
	name := p.name()
	if p.sees("(") {
		return api.Node{Op: api.NCall, S: name, L: p.list("(", ")").L}
	}
	if !p.sees("->") {
		p.leave()
	}
	return text(name)
}

func (p *parser) declaration() api.Node {
	n := api.Node{Op: api.NMy, S: p.take().Text}
	if !p.pass("(") {
		n.L = []api.Node{p.own()}
		return n
	}
	n.N = 1
	for {
		x := p.own()
		n.L = append(n.L, x)
		if p.pass(")") {
			return n
		}
		p.want(",")
	}
}

func (p *parser) local() api.Node {
	at := p.at
	n := api.Node{Op: api.NMy, S: p.take().Text}
	x := p.unary()
	if !canLocal(x) {
		panic(misfit(at))
	}
	n.L = []api.Node{x}
	return n
}

// blockTerm reads a word and a block.
func (p *parser) blockTerm(op int) api.Node {
	p.at++
	return node(op, p.block())
}

func (p *parser) each() api.Node {
	n := api.Node{Op: api.NEach, S: p.take().Text}
	b := p.block()
	l := p.list("(", ")")
	n.L = []api.Node{b, l}
	return n
}

// function reads a call of a function of the language.
func (p *parser) function() api.Node {
	n := api.Node{Op: api.NFunc, S: p.take().Text}
	at := p.at
	n.L = p.list("(", ")").L
	if !takes(n.S, n.L) {
		panic(misfit(at))
	}
	return n
}
