package tree

import (
	"strconv"
	"strings"
	"unicode/utf8"

	"motley/api"
	"motley/lex"
)

// mostHex is how many digits the number of a character has at most.
const mostHex = 6

// inter is the node of a text with interpolation, which may have any length.
func inter(raw string) api.Node {
	var j joiner
	for raw != "" {
		x, n := part(raw)
		j.add(x)
		raw = raw[n:]
	}
	return j.node()
}

// joiner joins texts that stand next to each other, and nodes between them.
type joiner struct {
	parts []api.Node
	last  strings.Builder // the text behind the last part
}

func (j *joiner) add(x api.Node) {
	if x.Op == api.NStr {
		j.last.WriteString(x.S)
		return
	}
	j.end()
	j.parts = append(j.parts, x)
}

// end makes a part of the text behind the last one.
func (j *joiner) end() {
	if j.last.Len() > 0 {
		j.parts = append(j.parts, text(j.last.String()))
		j.last.Reset()
	}
}

func (j *joiner) node() api.Node {
	if len(j.parts) == 0 {
		return text(j.last.String())
	}
	j.end()
	return node(api.NJoin, j.parts...)
}

// part returns the text or variable at the begin of a text with interpolation, and how many bytes it takes.
func part(raw string) (api.Node, int) {
	switch raw[0] {
	case '\\':
		s, n := escape(raw)
		return text(s), n
	case '$', '@':
		if x, n := interpolated(raw); n > 0 {
			return x, n
		}
		return text(raw[:1]), 1
	}
	n := strings.IndexAny(raw, `\$@`)
	if n < 0 {
		n = len(raw)
	}
	return text(raw[:n]), n
}

// escape returns what a `\` at the begin of a text stands for, and how many bytes it takes.
func escape(raw string) (string, int) {
	if len(raw) == 1 {
		return raw, 1
	}
	switch raw[1] {
	case 'n':
		return "\n", 2
	case 't':
		return "\t", 2
	case 'x':
		if s, n := character(raw); n > 0 {
			return s, n
		}
	}
	return raw[1:2], 2
}

// character returns the character that a `\x{H}` at the begin of a text stands for, and how many bytes it takes (0: there is none).
func character(raw string) (string, int) {
	inner, is := strings.CutPrefix(raw, `\x{`)
	digits, _, ends := strings.Cut(inner, "}")
	if !is || !ends || len(digits) > mostHex {
		return "", 0
	}
	c, err := strconv.ParseUint(digits, 16, 32)
	if err != nil || !utf8.ValidRune(rune(c)) {
		return "", 0
	}
	return string(rune(c)), len(`\x{`) + len(digits) + len("}")
}

// interpolated returns the variable at the begin of a text, and how many bytes it takes (0: there is none).
func interpolated(raw string) (api.Node, int) {
	sigil, rest := raw[:1], raw[1:]
	name, n := nameAt(rest)
	switch {
	case n > 0 && sigil == "@":
		return variable(sigil, name), 1 + n
	case n > 0:
		x, m := subscripted(name, rest[n:])
		return x, 1 + n + m
	case sigil == "$" && rest != "" && isSpecial(rest[:1]):
		// No array and no hash has such a name, so no subscript follows.
		return variable(sigil, rest[:1]), 2
	}
	return api.Node{}, 0
}

// nameAt returns the word, or the word between `{` and `}`, at the begin of a text, and how many bytes it takes (0: there is none).
func nameAt(s string) (string, int) {
	if word, n := inBraces(s); n > 0 {
		return word, n
	}
	word := s[:wordLength(s)]
	if !lex.IsWord(word) {
		return "", 0
	}
	return word, len(word)
}

// inBraces returns the word between `{` and `}` at the begin of a text, and how many bytes that takes (0: there is none).
func inBraces(s string) (string, int) {
	inner, is := strings.CutPrefix(s, "{")
	word, _, ends := strings.Cut(inner, "}")
	if !is || !ends || !lex.IsWord(word) {
		return "", 0
	}
	return word, len("{") + len(word) + len("}")
}

// wordLength is how many bytes at the begin of a text are a word of any length.
func wordLength(s string) int {
	n := 0
	for n < len(s) {
		switch {
		case lex.IsWord(s[n : n+1]), n > 0 && lex.IsWord("_"+s[n:n+1]):
			n++
		case n > 0 && strings.HasPrefix(s[n:], "::") && n+2 < len(s) && lex.IsWord(s[n+2:n+3]):
			n += 3
		default:
			return n
		}
	}
	return n
}

// subscripted returns the scalar with a name, or the element if a subscript begins a text, and how many bytes of the text it takes.
func subscripted(name, s string) (api.Node, int) {
	if key, n := inBraces(s); n > 0 {
		return node(api.NKey, variable("%", name), text(key)), n
	}
	inner, is := strings.CutPrefix(s, "[")
	place, _, ends := strings.Cut(inner, "]")
	x, fits := placeNode(place)
	if !is || !ends || !fits {
		return variable("$", name), 0
	}
	return node(api.NIndex, variable("@", name), x), len("[") + len(place) + len("]")
}

// placeNode returns the node of a place that is digits or a scalar with a name.
func placeNode(s string) (api.Node, bool) {
	if name, is := strings.CutPrefix(s, "$"); is {
		return variable("$", name), lex.IsWord(name)
	}
	n, is := number(s)
	return api.Node{Op: api.NNum, N: n}, is
}
