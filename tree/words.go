package tree

import (
	"strings"

	"motley/api"
	"motley/lex"
)

// Arity returns the least and the greatest number of arguments of a function of the language (-1: any number), and whether it is one.
func Arity(name string) (int, int, bool) {
	switch name {
	case "wantarray", "input":
		return 0, 0, true
	case "shift", "undef":
		return 0, 1, true
	case "print", "reverse", "die":
		return 0, -1, true
	case "pop", "keys", "values", "delete", "exists", "defined", "scalar", "length", "uc", "lc", "ord", "chr",
		"ref", "weaken", "untie", "guard", "tainted", "abs", "evaluate":
		return 1, 1, true
	case "push", "unshift", "join":
		return 1, -1, true
	case "split", "index", "bless":
		return 2, 2, true
	case "substr":
		return 2, 3, true
	case "tie":
		return 2, -1, true
	}
	return 0, 0, false
}

// isGrammar reports whether a word is one of the grammar.
func isGrammar(word string) bool {
	switch word {
	case "my", "our", "local", "sub", "return", "package", "last", "next", "if", "unless", "elsif", "else",
		"while", "until", "for", "do", "eval", "map", "grep", "sort", "and", "or", "not",
		"x", "lt", "gt", "le", "ge", "eq", "ne", "cmp", "BEGIN", "END", "q", "qq", "qw", "m", "s", "tr":
		return true
	}
	return isFunction(word)
}

func isFunction(word string) bool {
	_, _, is := Arity(word)
	return is
}

// beginsExpr reports whether an expression can begin with a word that is no text.
func beginsExpr(word string) bool {
	switch word {
	case "not", "my", "our", "local", "sub", "do", "eval", "map", "grep", "sort":
		return true
	}
	return isFunction(word) || IsName(word)
}

func isScalarName(s string) bool { return lex.IsWord(s) || isSpecial(s) }

// isSpecial reports whether a text is a name that only scalars have.
func isSpecial(s string) bool {
	return len(s) == 1 && strings.Contains("@&123456789", s)
}

// isOwnName reports whether a text is a name that `my` and `our` bring in.
func isOwnName(s string) bool {
	return lex.IsWord(s) && s != "_" && !strings.Contains(s, "::")
}

// takes reports whether a function of the language takes some arguments.
func takes(name string, args []api.Node) bool {
	least, most, is := Arity(name)
	if !is || len(args) < least || most >= 0 && len(args) > most {
		return false
	}
	return len(args) == 0 || takesFirst(name, args[0])
}

// takesFirst reports whether a function of the language takes something as its first argument.
func takesFirst(name string, x api.Node) bool {
	switch name {
	case "push", "unshift", "pop", "shift":
		return isArray(x)
	case "keys", "values":
		return isHash(x)
	case "delete", "exists":
		return isElement(x)
	case "weaken", "tie", "untie":
		return isPlace(x)
	case "undef":
		return isArray(x) || isHash(x) || isPlace(x)
	case "split":
		return x.Op == api.NMatch
	}
	return true
}
