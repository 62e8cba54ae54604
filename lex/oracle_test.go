package lex_test

import (
	"math/rand"
	"regexp"
	"slices"
	"strings"
	"testing"

	"motley/api"
	"motley/lex"
)

// reader reads a source once more, by regular expressions: it takes what is read, and the lines of heredocs, out of what is left.
type reader struct {
	left   string
	places []int // of the bytes that are left
	tokens []api.Token
	terms  []bool
	term   bool
	trace  string // a letter for each token
	open   []int
	failed bool
}

var (
	separated = regexp.MustCompile(`^(?:[\t\n ]|#[^\n]*)*`)
	blanks    = regexp.MustCompile(`^[\t\n ]*`)
	aWord     = regexp.MustCompile(`^[A-Za-z_](?:\w|::[A-Za-z_])*`)
	aNumber   = regexp.MustCompile(`^[0-9]+`)
	aVariable = regexp.MustCompile(`^(?:[$@%&][A-Za-z_](?:\w|::[A-Za-z_])*|\$[_@&1-9])`)
	aSigil    = regexp.MustCompile(`^[$@][${]`)
	aQuote    = regexp.MustCompile(`^(?:(q|qq|qw|m|s|tr)([(\[{</!|~'"])|(['"/]))`)
	aHeredoc  = regexp.MustCompile(`^<<(?:'([A-Za-z_](?:\w|::[A-Za-z_])*)'|"([A-Za-z_](?:\w|::[A-Za-z_])*)"|([A-Za-z_](?:\w|::[A-Za-z_])*))`)
	aPair     = regexp.MustCompile(`(?s)\\.`)
	pairOrEnd = regexp.MustCompile(`(?s)\\.|"`)
	foreign   = regexp.MustCompile(`[^\t\n -~]`)
	termWords = regexp.MustCompile(`^(?:return|and|or|not|x|lt|gt|le|ge|eq|ne|cmp|if|unless|elsif|else|while|until|for|do|eval|sub|map|grep|sort|my|our|local)$`)
	blockPast = regexp.MustCompile(`(?:^|[;B)w]|(?:^|[;B])w:)$`)
	enclosing = regexp.MustCompile(`[aS]$`)
	subscript = regexp.MustCompile(`[v\]E]$`)
)

// drop takes bytes out of what is left.
func (r *reader) drop(from, to int) {
	r.left = r.left[:from] + r.left[to:]
	r.places = slices.Concat(r.places[:from], r.places[to:])
}

// readAll is what Lex and Terms should return for a source that is not too long.
func readAll(s string) (tokens []api.Token, terms []bool, place int, e api.Errno) {
	r := reader{left: s, term: true}
	for i := range len(s) {
		r.places = append(r.places, i)
	}
	place = len(s)
	for {
		gap := len(separated.FindString(r.left))
		r.drop(0, gap)
		if r.left == "" {
			break
		}
		place = r.places[0]
		t, n := r.next()
		if r.failed {
			break
		}
		place = len(s)
		t.At = r.places[0]
		r.drop(0, n)
		r.add(t, gap > 0)
	}
	if at := foreign.FindStringIndex(s); at != nil {
		place = min(place, at[0])
	}
	if place < len(s) {
		return nil, nil, place, api.ErrSyntax
	}
	if len(r.tokens) > api.MaxTokens {
		return nil, nil, 0, api.ErrLarge
	}
	return r.tokens, r.terms, len(r.tokens), api.OK
}

// next is the token at the begin of what is left, and how many bytes it has.
func (r *reader) next() (api.Token, int) {
	s := r.left
	if r.term {
		if m := aQuote.FindStringSubmatch(s); m != nil {
			return r.quote(m[1]+m[3], len(m[1]))
		}
		if m := aHeredoc.FindStringSubmatch(s); m != nil && len(m[1]+m[2]+m[3]) <= api.MaxName {
			return r.heredoc(m[1]+m[2]+m[3], m[1] != ""), len(m[0])
		}
		if m := aVariable.FindString(s); m != "" && len(m) <= 1+api.MaxName {
			return api.Token{Kind: api.KVar, Text: m}, len(m)
		} else if m != "" && m[1] != '_' {
			r.failed = true
		}
		if aSigil.MatchString(s) {
			return api.Token{Kind: api.KSign, Text: s[:1]}, 1
		}
	}
	if m := aWord.FindString(s); m != "" {
		r.failed = r.failed || len(m) > api.MaxName
		return api.Token{Kind: api.KWord, Text: m}, len(m)
	}
	if m := aNumber.FindString(s); m != "" {
		return api.Token{Kind: api.KNum, Text: m}, len(m)
	}
	m := signAt(s)
	r.failed = r.failed || m == ""
	return api.Token{Kind: api.KSign, Text: m}, len(m)
}

// heredoc takes the lines of a heredoc out.
func (r *reader) heredoc(word string, bare bool) api.Token {
	line := strings.IndexByte(r.left, '\n')
	if line < 0 {
		r.failed = true
		return api.Token{}
	}
	end := regexp.MustCompile(`(?m)^` + word + `$`).FindStringIndex(r.left[line+1:])
	if end == nil {
		r.failed = true
		return api.Token{}
	}
	text := r.left[line+1:][:end[0]]
	r.drop(line+1, min(line+1+end[1]+1, len(r.left)))
	if bare {
		return api.Token{Kind: api.KStr, Text: text}
	}
	return api.Token{Kind: api.KInter, Text: interOf(text, '"', '"')}
}

func plainOf(s string, open, end byte) string {
	return aPair.ReplaceAllStringFunc(s, func(m string) string {
		if m[1] == '\\' || m[1] == open || m[1] == end {
			return m[1:]
		}
		return m
	})
}

func interOf(s string, open, end byte) string {
	return pairOrEnd.ReplaceAllStringFunc(s, func(m string) string {
		if m == `"` {
			return `\"`
		}
		if m != `\"` && m != `\\` && (m[1] == open || m[1] == end) {
			return m[1:]
		}
		return m
	})
}

func slashesOf(s string) string {
	return aPair.ReplaceAllStringFunc(s, func(m string) string {
		if m == `\/` {
			return "/"
		}
		return m
	})
}

// closing is how many bytes there are up to a delimiter and with it, or -1.
func closing(s string, open, end byte) int {
	if s == "" {
		return -1
	}
	step := 1
	switch {
	case s[0] == end:
		return 1
	case s[0] == open:
		step = closing(s[1:], open, end) + 1
	case s[0] == '\\':
		step = 2
	}
	if step == 0 || step > len(s) {
		return -1
	}
	behind := closing(s[step:], open, end)
	if behind < 0 {
		return -1
	}
	return step + behind
}

// part is what stands between the delimiters at the begin of a text, those, and how many bytes all have.
func (r *reader) part(s string) (string, byte, byte, int) {
	if s == "" || strings.IndexByte("([{</!|~'\"", s[0]) < 0 {
		r.failed = true
		return "", 0, 0, 0
	}
	open := s[0]
	end := open
	if i := strings.IndexByte("([{<", open); i >= 0 {
		end = ")]}>"[i]
	}
	n := closing(s[1:], open, end)
	if n < 0 {
		r.failed = true
		return "", 0, 0, 0
	}
	return s[1:n], open, end, 1 + n
}

// quote is the quote at the begin of what is left, whose delimiter stands behind n bytes.
func (r *reader) quote(word string, n int) (api.Token, int) {
	first, open, end, length := r.part(r.left[n:])
	n += length
	if r.failed {
		return api.Token{}, 0
	}
	second, open2, end2 := "", open, end
	if word == "s" || word == "tr" {
		from := n - 1
		if open != end {
			from = n + len(blanks.FindString(r.left[n:]))
		}
		second, open2, end2, length = r.part(r.left[from:])
		n = from + length
	}
	if r.failed {
		return api.Token{}, 0
	}
	patterns := regexp.MustCompile(`^i?m?s?x?g?`).FindString(r.left[n:])
	trans := regexp.MustCompile(`^c?d?r?`).FindString(r.left[n:])
	switch word {
	case "q", "'":
		return api.Token{Kind: api.KStr, Text: plainOf(first, open, end)}, n
	case "qq", `"`:
		return api.Token{Kind: api.KInter, Text: interOf(first, open, end)}, n
	case "qw":
		return api.Token{Kind: api.KWords, Text: strings.Join(strings.Fields(plainOf(first, open, end)), " ")}, n
	case "s":
		return api.Token{Kind: api.KSubst, Text: slashesOf(first), Repl: slashesOf(interOf(second, open2, end2)), More: patterns}, n + len(patterns)
	case "tr":
		return api.Token{Kind: api.KTrans, Text: plainOf(first, open, end), Repl: plainOf(second, open2, end2), More: trans}, n + len(trans)
	}
	return api.Token{Kind: api.KPat, Text: slashesOf(first), More: patterns}, n + len(patterns)
}

// add adds a token with its Open.
func (r *reader) add(t api.Token, apart bool) {
	letter, behind := "x", true
	switch t.Kind {
	case api.KWord:
		letter, behind = "w", termWords.MatchString(t.Text)
	case api.KVar:
		letter, behind = "v", false
	case api.KSign:
		letter, behind = r.addSign(&t, apart)
	default:
		behind = false
	}
	r.tokens = append(r.tokens, t)
	r.terms = append(r.terms, r.term)
	r.trace += letter
	r.term = behind
}

func (r *reader) addSign(t *api.Token, apart bool) (string, bool) {
	switch t.Text {
	case ";", ":":
		return t.Text, true
	case ")", "]":
		return t.Text, false
	case "->":
		return "a", true
	case "++", "--":
		return "x", r.term
	case "$", "@":
		return "S", true
	case "%", "&":
		if r.term {
			return "S", true
		}
	case "{":
		t.Open = 3
		if enclosing.MatchString(r.trace) || !apart && subscript.MatchString(r.trace) {
			t.Open = 2
		} else if blockPast.MatchString(r.trace) {
			t.Open = 1
		}
		r.open = append(r.open, t.Open)
		return []string{"", "B", "x", "x"}[t.Open], true
	case "}":
		t.Open = 1
		if n := len(r.open); n > 0 {
			t.Open = r.open[n-1]
			r.open = r.open[:n-1]
		}
		return []string{"", "B", "E", "x"}[t.Open], t.Open == 1
	}
	return "x", true
}

// pieces are what random sources are put together from.
var pieces = strings.Fields("a b E E q qq qw m s tr x if or sub L: 1 23 $x @y %z &f $_ $1 $& $@ @_ $ @ % & ${ @{ %{ &{ $$ ( ) [ ] { } { } {} , ; ; : ? \\ = == + - * / / // . .. ++ -- => -> -> & && | ^ ! =~ < <<E <<E <<'E' <<\"E\" <<b ' ' \" \" ~ ! | # \\' \\\" \\/ \\) \\\\ q( qq( qw( m( s( tr( s{ tr[ s/ tr/ m/ q' qq\" s'a'b' i g x imsxg gi cdr a:: ::b abcdefghijkl abcdefghijklm _ \xff ` 0")

func randomSource(r *rand.Rand) string {
	var b strings.Builder
	for range r.Intn(16) {
		b.WriteString(pieces[r.Intn(len(pieces))])
		switch r.Intn(12) {
		case 0, 1, 2, 3:
			b.WriteString(" ")
		case 4:
			b.WriteString("\nE\n")
		case 5:
			b.WriteString("\n")
		}
	}
	return b.String()
}

// P3.1, P3.2: random sources are read as the reader reads them, and Join of Lex gives the Same tokens.
func TestRandomSources(t *testing.T) {
	r := rand.New(rand.NewSource(3))
	right := 0
	for range 40000 {
		s := randomSource(r)
		tokens, terms, place, want := readAll(s)
		l, n, e := lex.Lex(s)
		if !slices.Equal(l, tokens) || n != place || e != want {
			t.Fatalf("Lex of %q: %s %d %d\nnot %s %d %d", s, tell(l), n, e, tell(tokens), place, want)
		}
		k, e := lex.Terms(s)
		if !slices.Equal(k, terms) || e != want {
			t.Fatalf("Terms of %q: %v %d, not %v %d", s, k, e, terms, want)
		}
		if want != api.OK {
			continue
		}
		right++
		j, e := lex.Join(tokens)
		l, _, f := lex.Lex(j)
		if e != api.OK || f != api.OK || !lex.Same(l, tokens) {
			t.Fatalf("Join of %q: %q %d %d", s, j, e, f)
		}
	}
	if right < 8000 {
		t.Errorf("only %d sources are right", right)
	}
}
