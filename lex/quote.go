package lex

import (
	"strings"

	"motley/api"
)

// The flags in their order.
const (
	flagsOfPatterns = "imsxg"
	flagsOfTrans    = "cdr"
)

// quote reads a quote, if one begins here.
func (p *scanner) quote() (api.Token, bool) {
	kind, n, is := quoteKind(p.s[p.at:])
	if !is {
		return api.Token{}, false
	}
	q := quoting{scanner: p, from: p.at, open: p.s[p.at+n]}
	p.at += n
	return q.token(kind), true
}

// quoteKind returns the kind of the quote that begins a text, and how many bytes stand before its delimiter.
func quoteKind(s string) (int, int, bool) {
	n := wordLength(s)
	if n == len(s) || !isDelimiter(s[n]) {
		return 0, 0, false
	}
	word := s[:n]
	if n == 0 {
		word = s[:1]
	}
	switch word {
	case "q", `'`:
		return api.KStr, n, true
	case "qq", `"`:
		return api.KInter, n, true
	case "qw":
		return api.KWords, n, true
	case "m", "/":
		return api.KPat, n, true
	case "s":
		return api.KSubst, n, true
	case "tr":
		return api.KTrans, n, true
	}
	return 0, 0, false
}

func isDelimiter(c byte) bool { return strings.IndexByte(`([{</!|~'"`, c) >= 0 }

// partner returns the delimiter that ends what another begins.
func partner(open byte) byte {
	switch open {
	case '(':
		return ')'
	case '[':
		return ']'
	case '{':
		return '}'
	case '<':
		return '>'
	}
	return open
}

// quoting is the reading of a quote: where it began, and the delimiter that began its last part.
type quoting struct {
	*scanner
	from int
	open byte
}

// token reads the parts of a quote from its delimiter on.
func (q *quoting) token(kind int) api.Token {
	t := api.Token{Kind: kind}
	q.at++
	raw := q.part()
	switch kind {
	case api.KStr:
		t.Text = plain(raw, q.open)
	case api.KInter:
		t.Text = inter(raw, q.open)
	case api.KWords:
		t.Text = strings.Join(strings.Fields(plain(raw, q.open)), " ")
	case api.KPat:
		t.Text = withoutSlashes(raw)
		t.More = q.flags(flagsOfPatterns)
	case api.KSubst:
		t.Text = withoutSlashes(raw)
		raw = q.second()
		t.Repl = withoutSlashes(inter(raw, q.open))
		t.More = q.flags(flagsOfPatterns)
	case api.KTrans:
		t.Text = plain(raw, q.open)
		raw = q.second()
		t.Repl = plain(raw, q.open)
		t.More = q.flags(flagsOfTrans)
	}
	return t
}

// part returns what stands up to the delimiter that ends it, and passes both.
func (q *quoting) part() string {
	var b strings.Builder
	end := partner(q.open)
	for pairs := 0; q.at < len(q.s); {
		c := q.s[q.at]
		q.step()
		switch {
		case c == '\\' && q.at < len(q.s):
			b.WriteByte(c)
			c = q.s[q.at]
			q.step()
		case c == end && pairs == 0:
			return b.String()
		case c == end:
			pairs--
		case c == q.open:
			pairs++
		}
		b.WriteByte(c)
	}
	panic(wrong(q.from))
}

// second returns the second part of a quote.
func (q *quoting) second() string {
	if partner(q.open) == q.open {
		return q.part()
	}
	for q.at < len(q.s) && isBlank(q.s[q.at]) {
		q.step()
	}
	if q.at == len(q.s) || !isDelimiter(q.s[q.at]) {
		panic(wrong(q.from))
	}
	q.open = q.s[q.at]
	q.at++
	return q.part()
}

// flags passes those of some flags that stand here in their order, and returns them.
func (q *quoting) flags(all string) string {
	n := 0
	for i := range len(all) {
		if q.at+n < len(q.s) && q.s[q.at+n] == all[i] {
			n++
		}
	}
	return q.take(n)
}
