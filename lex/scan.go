package lex

import (
	"strings"

	"motley/api"
)

// What a brace is.
const (
	block     = 1
	subscript = 2
	hash      = 3
)

// longestSign is how many bytes a sign has at most.
const longestSign = 3

// wrong is the place of a byte at which a scanner leaves.
type wrong int

// scanner goes through a source.
type scanner struct {
	s      string
	at     int
	end    int  // where the last token ended
	term   bool // a term is expected
	tokens []api.Token
	terms  []bool      // what was expected before each token
	open   []int       // what each `{` is that is open
	goesOn map[int]int // from the end of a line to where the source goes on behind the lines of its heredocs
}

// scan goes through a whole source; with ErrSyntax, it returns the place of the first wrong byte.
func scan(s string) (*scanner, int, api.Errno) {
	if len(s) > api.MaxSource {
		return nil, 0, api.ErrLarge
	}
	p := &scanner{s: s, term: true, goesOn: map[int]int{}}
	if place := min(p.run(), foreign(s)); place < len(s) {
		return nil, place, api.ErrSyntax
	}
	if len(p.tokens) > api.MaxTokens {
		return nil, 0, api.ErrLarge
	}
	return p, 0, api.OK
}

// run reads all tokens, and returns the place at which it had to leave (that behind the last byte if at none).
func (p *scanner) run() (place int) {
	place = len(p.s)
	defer func() {
		if at, is := recover().(wrong); is {
			place = int(at)
		}
	}()
	for p.skip() {
		p.read()
	}
	return place
}

// foreign is the place of the first byte that no source has (that behind the last byte if there is none).
func foreign(s string) int {
	for at := range len(s) {
		c := s[at]
		if c != '\t' && c != '\n' && (c < 32 || c > 126) {
			return at
		}
	}
	return len(s)
}

// skip passes blanks and comments, and reports whether something stands behind them.
func (p *scanner) skip() bool {
	for p.at < len(p.s) {
		switch c := p.s[p.at]; {
		case isBlank(c):
			p.step()
		case c == '#':
			p.skipComment()
		default:
			return true
		}
	}
	return false
}

// skipComment passes what stands up to the end of the line, which is left to skip.
func (p *scanner) skipComment() {
	for p.at < len(p.s) && p.s[p.at] != '\n' {
		p.at++
	}
}

// step passes a byte, and behind the end of a line the lines of its heredocs.
func (p *scanner) step() {
	if to, is := p.goesOn[p.at]; is {
		p.at = to
		return
	}
	p.at++
}

// read reads a token.
func (p *scanner) read() {
	from, direct := p.at, p.at == p.end
	t := p.token()
	t.At = from
	if t.Kind == api.KSign {
		t.Open = p.brace(t.Text, direct)
	}
	p.tokens = append(p.tokens, t)
	p.terms = append(p.terms, p.term)
	p.term = termBehind(t, p.term)
	p.end = p.at
}

// token reads a token without its place and its Open.
func (p *scanner) token() api.Token {
	if p.term {
		if t, is := p.quote(); is {
			return t
		}
		if t, is := p.heredoc(); is {
			return t
		}
		if t, is := p.variable(); is {
			return t
		}
	}
	switch c := p.s[p.at]; {
	case beginsWord(c):
		return p.word()
	case isDigit(c):
		return p.number()
	}
	return p.sign()
}

func (p *scanner) word() api.Token {
	n := wordLength(p.s[p.at:])
	if n > api.MaxName {
		panic(wrong(p.at))
	}
	return api.Token{Kind: api.KWord, Text: p.take(n)}
}

func (p *scanner) number() api.Token {
	n := 1
	for p.at+n < len(p.s) && isDigit(p.s[p.at+n]) {
		n++
	}
	return api.Token{Kind: api.KNum, Text: p.take(n)}
}

// variable reads a variable, if one begins here.
func (p *scanner) variable() (api.Token, bool) {
	sigil, rest := p.s[p.at], p.s[p.at+1:]
	if !isSigil(sigil) || rest == "" {
		return api.Token{}, false
	}
	n := wordLength(rest)
	if n == 0 && sigil == '$' && strings.IndexByte("@&123456789", rest[0]) >= 0 {
		n = 1
	}
	// A letter makes a variable of it even if the word is too long, where a `%` or `&` before a `_` is a sign.
	if n > api.MaxName && rest[0] != '_' {
		panic(wrong(p.at))
	}
	if n == 0 || n > api.MaxName {
		return api.Token{}, false
	}
	return api.Token{Kind: api.KVar, Text: p.take(1 + n)}, true
}

// sign reads the longest sign that stands here.
func (p *scanner) sign() api.Token {
	rest := p.s[p.at:]
	for n := min(longestSign, len(rest)); n > 0; n-- {
		if isSign(rest[:n]) {
			return api.Token{Kind: api.KSign, Text: p.take(n)}
		}
	}
	if p.term && (rest[0] == '$' || rest[0] == '@') && len(rest) > 1 && (rest[1] == '$' || rest[1] == '{') {
		return api.Token{Kind: api.KSign, Text: p.take(1)}
	}
	panic(wrong(p.at))
}

// take passes n bytes in which no line ends, and returns them.
func (p *scanner) take(n int) string {
	text := p.s[p.at : p.at+n]
	p.at += n
	return text
}

// brace returns what a brace is (0 for other signs).
func (p *scanner) brace(text string, direct bool) int {
	switch text {
	case "{":
		is := p.opened(direct)
		p.open = append(p.open, is)
		return is
	case "}":
		return p.closed()
	}
	return 0
}

// opened returns what a `{` is that stands behind the last token, directly or not.
func (p *scanner) opened(direct bool) int {
	switch {
	case p.isSubscript(direct):
		return subscript
	case p.isBlock():
		return block
	}
	return hash
}

// closed returns what the `{` is to which a `}` belongs.
func (p *scanner) closed() int {
	n := len(p.open)
	if n == 0 {
		return block
	}
	is := p.open[n-1]
	p.open = p.open[:n-1]
	return is
}

func (p *scanner) isSubscript(direct bool) bool {
	last := p.last(1)
	if last.Kind == api.KVar {
		return direct
	}
	if last.Kind != api.KSign {
		return false
	}
	switch last.Text {
	case "->", "$", "@":
		return true
	case "%", "&":
		// Where a term was expected, it is a sign of a term, which blanks do not part from what it refers to.
		return p.terms[len(p.terms)-1]
	case "]":
		return direct
	case "}":
		return direct && last.Open == subscript
	}
	return false
}

func (p *scanner) isBlock() bool {
	last := p.last(1)
	if isSignOf(last, ":") && p.last(2).Kind == api.KWord {
		return endsStatement(p.last(3))
	}
	return last.Kind == api.KWord || isSignOf(last, ")") || endsStatement(last)
}

// last returns the last token but n - 1. Where there is none, it is a `;`, behind which everything is as at the beginning.
func (p *scanner) last(n int) api.Token {
	if n > len(p.tokens) {
		return api.Token{Kind: api.KSign, Text: ";"}
	}
	return p.tokens[len(p.tokens)-n]
}

// endsStatement reports whether a token is a `;` or a brace of a block.
func endsStatement(t api.Token) bool {
	return isSignOf(t, ";") || t.Open == block
}

func isSignOf(t api.Token, text string) bool {
	return t.Kind == api.KSign && t.Text == text
}
