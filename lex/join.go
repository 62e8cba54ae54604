package lex

import (
	"strings"

	"motley/api"
)

// Join returns a source for tokens.
func Join(l []api.Token) (string, api.Errno) {
	s := joined(l)
	k, _, e := Lex(s)
	if e != api.OK {
		return "", e
	}
	if !Same(k, l) {
		return "", api.ErrArg
	}
	return s, api.OK
}

// Quote returns a text as a quote without interpolation.
func Quote(s string) (string, api.Errno) {
	if len(s) > api.MaxText {
		return "", api.ErrLarge
	}
	if foreign(s) < len(s) {
		return "", api.ErrArg
	}
	return quoted(s), api.OK
}

func joined(l []api.Token) string {
	var b strings.Builder
	term := true
	for i, t := range l {
		b.WriteString(written(t))
		if i+1 < len(l) && !isTight(t, l[i+1], term) {
			b.WriteByte(' ')
		}
		term = termBehind(t, term)
	}
	return b.String()
}

// isTight reports whether two tokens stand without a blank between; term is what was expected before the first.
func isTight(t, u api.Token, term bool) bool {
	switch {
	case isSignOf(u, "{") && u.Open == subscript:
		return true
	case !term:
		// Where an operator is expected, none of these is a sign of a term.
		return false
	case isSignOf(t, "$") || isSignOf(t, "@"):
		return true
	case isSignOf(t, "%") || isSignOf(t, "&"):
		return strings.HasPrefix(written(u), "$")
	}
	return false
}

// written is how a token is written.
func written(t api.Token) string {
	switch t.Kind {
	case api.KStr:
		return quoted(t.Text)
	case api.KInter:
		return `"` + t.Text + `"`
	case api.KWords:
		return "qw(" + escaped(t.Text, `()\`) + ")"
	case api.KPat:
		return "m/" + escaped(t.Text, "/") + "/" + t.More
	case api.KSubst:
		return "s/" + escaped(t.Text, "/") + "/" + escaped(t.Repl, "/") + "/" + t.More
	case api.KTrans:
		return "tr/" + escaped(t.Text, `/\`) + "/" + escaped(t.Repl, `/\`) + "/" + t.More
	}
	return t.Text
}

func quoted(s string) string { return "'" + escaped(s, `'\`) + "'" }

// escaped puts a `\` before each byte of a text that is one of some.
func escaped(s, some string) string {
	var b strings.Builder
	for i := range len(s) {
		if strings.IndexByte(some, s[i]) >= 0 {
			b.WriteByte('\\')
		}
		b.WriteByte(s[i])
	}
	return b.String()
}
