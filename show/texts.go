package show

import (
	"strconv"
	"strings"
	"unicode/utf8"

	"motley/api"
	"motley/lex"
	"motley/tree"
)

// The bytes before which a `\` stands.
const (
	marksOfInter       = "\"\\$@"
	marksOfReplacement = marksOfInter + "/"
	marksOfPattern     = "/"
	marksOfTrans       = "/\\"
)

// text writes a text with its quotes.
func (p *printer) text(n api.Node) {
	if quoted, is := plain(n); is {
		p.WriteString(quoted)
		return
	}
	p.WriteString(`"`)
	defer p.WriteString(`"`)
	p.inter(n, marksOfInter)
}

// plain returns a text between `'` and `'`, if it stands so.
func plain(n api.Node) (string, bool) {
	if n.Op != api.NStr || strings.Contains(n.S, "\n") {
		return "", false
	}
	quoted, e := lex.Quote(n.S)
	return quoted, e == api.OK
}

// inter writes what stands between the quotes of a text with interpolation.
func (p *printer) inter(n api.Node, marks string) {
	if n.Op == api.NStr {
		p.chars(n.S, marks)
		return
	}
	for i, x := range n.L {
		if x.Op != api.NStr {
			p.WriteString(interpolated(x))
			continue
		}
		if i > 0 && n.L[i-1].Op == api.NScalar && (x.S[0] == '[' || x.S[0] == '{') {
			p.WriteString(`\`)
		}
		p.chars(x.S, marks)
	}
}

// chars writes the characters of a text with interpolation.
func (p *printer) chars(s, marks string) {
	for _, c := range s {
		switch {
		case c == '\n':
			p.WriteString(`\n`)
		case c == '\t':
			p.WriteString(`\t`)
		case c < ' ' || c > '~':
			p.WriteString(`\x{` + strconv.FormatInt(int64(c), 16) + "}")
		case strings.ContainsRune(marks, c):
			p.WriteString(`\` + string(c))
		default:
			p.WriteRune(c)
		}
	}
}

// interpolated returns a variable as it stands in texts (nothing for what does not stand in them).
func interpolated(n api.Node) string {
	switch {
	case n.Op == api.NScalar && lex.IsWord(n.S):
		return "${" + n.S + "}"
	case n.Op == api.NScalar:
		return "$" + n.S
	case n.Op == api.NArray:
		return "@{" + n.S + "}"
	case n.Op == api.NIndex && len(n.L) == 2:
		return "$" + n.L[0].S + "[" + place(n.L[1]) + "]"
	case n.Op == api.NKey && len(n.L) == 2:
		return "$" + n.L[0].S + "{" + n.L[1].S + "}"
	}
	return ""
}

// place returns the place of an element as it stands in texts.
func place(n api.Node) string {
	if n.Op == api.NNum {
		return strconv.Itoa(n.N)
	}
	return "$" + n.S
}

// isInter reports whether a node is as tree.Inter makes nodes, of whatever length.
func isInter(n api.Node) bool {
	if n.Op == api.NStr {
		return isText(n)
	}
	joins := false
	for i, x := range n.L {
		isNext := i > 0 && n.L[i-1].Op == api.NStr
		switch {
		case x.Op != api.NStr && isInterpolated(x):
			joins = true
		case x.Op != api.NStr || x.S == "" || isNext || !isText(x):
			return false
		}
	}
	return joins && n.S == "" && n.T == "" && n.N == 0
}

func isText(n api.Node) bool {
	return utf8.ValidString(n.S) && n.T == "" && n.N == 0 && len(n.L) == 0
}

// isInterpolated reports whether a node is read from what is written of it in texts.
func isInterpolated(x api.Node) bool {
	n, e := tree.Inter(interpolated(x))
	return e == api.OK && n.Op == api.NJoin && tree.Same(n.L, []api.Node{x})
}

// matching writes a pattern, a replacement or a transliteration, with its subject if it has to be named.
func (p *printer) matching(n api.Node) {
	if !isOfTopic(n) {
		p.operand(n.L[0])
		p.WriteString(" =~ ")
	}
	switch n.Op {
	case api.NMatch:
		p.WriteString("m/" + escaped(n.S, marksOfPattern) + "/" + n.T)
	case api.NSubst:
		p.WriteString("s/" + escaped(n.S, marksOfPattern) + "/")
		p.inter(n.L[1], marksOfReplacement)
		p.WriteString("/" + n.T)
	case api.NTrans:
		p.WriteString("tr/" + escaped(n.S, marksOfTrans) + "/" + escaped(n.T, marksOfTrans) + "/" + n.L[1].S)
	}
}

// escaped returns a text with a `\` before some of its bytes.
func escaped(s, marks string) string {
	var b strings.Builder
	for i := range len(s) {
		if strings.IndexByte(marks, s[i]) >= 0 {
			b.WriteByte('\\')
		}
		b.WriteByte(s[i])
	}
	return b.String()
}
