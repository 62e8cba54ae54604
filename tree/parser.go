package tree

import "motley/api"

// What a brace is.
const (
	block     = 1
	subscript = 2
	hash      = 3
)

// none is the kind of what stands behind the last token.
const none = -1

// misfit is the number of a token at which a parser leaves, as it does not fit.
type misfit int

// parser goes through the tokens of a source.
type parser struct {
	tokens []api.Token
	at     int
	levels [levelCount]map[string]api.Node
}

// read reads tokens that are to be what a rule reads; it returns the number of the first one that does not fit, if one does not.
func read(tokens []api.Token, rule func(*parser) []api.Node) (l []api.Node, at int, fits bool) {
	p := &parser{tokens: tokens, levels: levels()}
	defer func() {
		if m, is := recover().(misfit); is {
			l, at, fits = nil, int(m), false
		}
	}()
	l = rule(p)
	if p.at < len(tokens) {
		p.leave()
	}
	return l, 0, true
}

// leave leaves at the next token.
func (p *parser) leave() {
	panic(misfit(p.at))
}

// ahead returns the next token but n.
func (p *parser) ahead(n int) api.Token {
	if p.at+n >= len(p.tokens) {
		return api.Token{Kind: none}
	}
	return p.tokens[p.at+n]
}

// take passes the next token, which there must be, and returns it.
func (p *parser) take() api.Token {
	t := p.tokens[p.at]
	p.at++
	return t
}

// sees reports whether the next token is a word or sign.
func (p *parser) sees(text string) bool {
	return is(p.ahead(0), text)
}

// opens reports whether the next token is a `{` that is meant so.
func (p *parser) opens(open int) bool {
	return p.sees("{") && p.ahead(0).Open == open
}

// pass passes a word or sign, if it is the next token, and reports whether it was.
func (p *parser) pass(text string) bool {
	if !p.sees(text) {
		return false
	}
	p.at++
	return true
}

// want passes a word or sign that must be the next token.
func (p *parser) want(text string) {
	if !p.pass(text) {
		p.leave()
	}
}

// wantOpen passes a `{` that must be the next token and be meant so.
func (p *parser) wantOpen(open int) {
	if !p.opens(open) {
		p.leave()
	}
	p.at++
}

// name passes a name that must be the next token, and returns it.
func (p *parser) name() string {
	if !isName(p.ahead(0)) {
		p.leave()
	}
	return p.take().Text
}

// own passes a variable that must be the next token and be one that `my` and `our` bring in.
func (p *parser) own() api.Node {
	t := p.ahead(0)
	if t.Kind != api.KVar || t.Text[0] == '&' || !isOwnName(t.Text[1:]) {
		p.leave()
	}
	p.at++
	return variable(t.Text[:1], t.Text[1:])
}

// is reports whether a token is a word or sign. No word is a sign, so that the text tells which of them.
func is(t api.Token, text string) bool {
	return (t.Kind == api.KWord || t.Kind == api.KSign) && t.Text == text
}

func isName(t api.Token) bool {
	return t.Kind == api.KWord && IsName(t.Text)
}

// isSigil reports whether a token, where a term may stand, is a sign before what is referred to.
func isSigil(t api.Token) bool {
	return is(t, "$") || is(t, "@") || is(t, "%") || is(t, "&")
}

func node(op int, l ...api.Node) api.Node {
	return api.Node{Op: op, L: l}
}

func text(s string) api.Node {
	return api.Node{Op: api.NStr, S: s}
}

// variable returns the variable with a sigil and a name.
func variable(sigil, name string) api.Node {
	switch sigil {
	case "@":
		return api.Node{Op: api.NArray, S: name}
	case "%":
		return api.Node{Op: api.NHash, S: name}
	}
	return api.Node{Op: api.NScalar, S: name}
}

// deref returns what is referred to.
func deref(sigil string, x api.Node) api.Node {
	return api.Node{Op: api.NDeref, S: sigil, L: []api.Node{x}}
}
