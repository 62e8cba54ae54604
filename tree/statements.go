package tree

import "motley/api"

func (p *parser) program() []api.Node {
	var l []api.Node
	for p.at < len(p.tokens) {
		l = p.statement(l)
	}
	return l
}

// block reads a block without a label.
func (p *parser) block() api.Node {
	p.wantOpen(block)
	var l []api.Node
	for !p.pass("}") {
		l = p.statement(l)
	}
	return node(api.NBlock, l...)
}

// statement reads a statement and adds it to others; a `;` alone is none.
func (p *parser) statement(l []api.Node) []api.Node {
	if p.pass(";") {
		return l
	}
	n := p.wholeStatement()
	return append(l, n)
}

func (p *parser) wholeStatement() api.Node {
	t := p.ahead(0)
	if isName(t) && is(p.ahead(1), ":") {
		return p.labelled()
	}
	if n, is := p.loop(); is {
		return n
	}
	if t.Kind == api.KWord {
		switch t.Text {
		case "sub":
			if !is(p.ahead(1), "{") {
				return p.define()
			}
		case "package":
			return p.packaged()
		case "if", "unless":
			return p.branches()
		case "return":
			return p.returned()
		case "last", "next":
			return p.left()
		case "BEGIN", "END":
			return p.phase()
		}
	}
	return p.expression()
}

// labelled reads a label and what may have one.
func (p *parser) labelled() api.Node {
	label := p.name()
	p.want(":")
	n, is := p.loop()
	if !is {
		p.leave()
	}
	n.T = label
	return n
}

// loop reads a statement that may have a label, if one begins here.
func (p *parser) loop() (api.Node, bool) {
	switch {
	case p.opens(block):
		return p.block(), true
	case p.sees("while"), p.sees("until"):
		return p.whileLoop(), true
	case p.sees("for"):
		return p.forLoop(), true
	}
	return api.Node{}, false
}

func (p *parser) whileLoop() api.Node {
	turned := p.take().Text == "until"
	c := turn(p.condition(), turned)
	b := p.block()
	return node(api.NWhile, c, b)
}

func (p *parser) forLoop() api.Node {
	p.want("for")
	n := api.Node{Op: api.NFor, S: "_"}
	if p.pass("my") {
		if t := p.ahead(0); t.Kind == api.KVar && t.Text[0] != '$' {
			p.leave()
		}
		n.S, n.N = p.own().S, 1
	}
	l := p.list("(", ")")
	b := p.block()
	n.L = []api.Node{l, b}
	return n
}

// condition reads a condition in parentheses.
func (p *parser) condition() api.Node {
	p.want("(")
	c := p.expr()
	p.want(")")
	return c
}

// turn returns a condition, or its opposite.
func turn(c api.Node, turned bool) api.Node {
	if turned {
		return node(api.NNot, c)
	}
	return c
}

func (p *parser) branches() api.Node {
	turned := p.take().Text == "unless"
	c := turn(p.condition(), turned)
	b := p.block()
	l := []api.Node{c, b}
	for p.pass("elsif") {
		c = p.condition()
		b = p.block()
		l = append(l, c, b)
	}
	if p.pass("else") {
		b = p.block()
		l = append(l, b)
	}
	return node(api.NIf, l...)
}

func (p *parser) define() api.Node {
	p.want("sub")
	n := api.Node{Op: api.NDefine, S: p.name()}
	n.L = []api.Node{p.block()}
	return n
}

func (p *parser) packaged() api.Node {
	p.want("package")
	n := api.Node{Op: api.NPackage, S: p.name()}
	p.want(";")
	return n
}

func (p *parser) returned() api.Node {
	p.want("return")
	n := node(api.NReturn)
	if !p.sees(";") {
		n.L = []api.Node{p.expr()}
	}
	p.want(";")
	return n
}

// left reads a statement that leaves a loop.
func (p *parser) left() api.Node {
	n := api.Node{Op: api.NLeave, S: p.take().Text}
	if !p.sees(";") {
		n.T = p.name()
	}
	p.want(";")
	return n
}

func (p *parser) phase() api.Node {
	n := api.Node{Op: api.NPhase, S: p.take().Text}
	n.L = []api.Node{p.block()}
	return n
}

// expression reads an expression as a statement, perhaps with a condition behind it.
func (p *parser) expression() api.Node {
	n := node(api.NExpr, p.expr())
	if turned := p.sees("unless"); turned || p.sees("if") {
		p.at++
		c := p.expr()
		n = node(api.NIf, turn(c, turned), node(api.NBlock, n))
	}
	p.want(";")
	return n
}
