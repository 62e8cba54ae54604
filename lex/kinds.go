package lex

import (
	"strings"

	"motley/api"
)

func isBlank(c byte) bool { return c == ' ' || c == '\t' || c == '\n' }

func isDigit(c byte) bool { return '0' <= c && c <= '9' }

func isSigil(c byte) bool { return strings.IndexByte("$@%&", c) >= 0 }

// beginsWord reports whether a byte is a letter or `_`.
func beginsWord(c byte) bool {
	return 'a' <= c && c <= 'z' || 'A' <= c && c <= 'Z' || c == '_'
}

// wordLength is how many bytes at the beginning of a text are a word of any length.
func wordLength(s string) int {
	if s == "" || !beginsWord(s[0]) {
		return 0
	}
	n := 1
	for n < len(s) {
		switch {
		case beginsWord(s[n]) || isDigit(s[n]):
			n++
		case strings.HasPrefix(s[n:], "::") && n+2 < len(s) && beginsWord(s[n+2]):
			n += 3
		default:
			return n
		}
	}
	return n
}

// isSign reports whether a text is a sign that stands anywhere.
func isSign(s string) bool {
	switch s {
	case "(", ")", "[", "]", "{", "}", ",", ";", ":", "?", `\`,
		"=", "==", "!=", "<", ">", "<=", ">=", "<=>",
		"+", "-", "*", "/", "%", ".", "..", "++", "--",
		"+=", "-=", "*=", "/=", "%=", ".=", "||=", "&&=", "//=",
		"||", "&&", "//", "!", "=~", "!~", "=>", "->", "&", "|", "^":
		return true
	}
	return false
}

// termBehind reports whether a term is expected behind a token, when before is what was expected before it.
func termBehind(t api.Token, before bool) bool {
	switch t.Kind {
	case api.KWord:
		return takesTerm(t.Text)
	case api.KSign:
		return termBehindSign(t, before)
	case api.KNum, api.KVar, api.KStr, api.KInter, api.KWords, api.KPat, api.KSubst, api.KTrans:
		return false
	}
	return true
}

func termBehindSign(t api.Token, before bool) bool {
	switch t.Text {
	case ")", "]":
		return false
	case "}":
		return t.Open != subscript && t.Open != hash
	case "++", "--":
		return before
	}
	return true
}

// takesTerm reports whether a term is expected behind a word.
func takesTerm(word string) bool {
	switch word {
	case "return", "and", "or", "not", "x", "lt", "gt", "le", "ge", "eq", "ne", "cmp",
		"if", "unless", "elsif", "else", "while", "until", "for", "do", "eval", "sub",
		"map", "grep", "sort", "my", "our", "local":
		return true
	}
	return false
}
