package lex

import (
	"strings"

	"motley/api"
)

// heredoc reads the beginning of a heredoc and its lines, if one begins here.
func (p *scanner) heredoc() (api.Token, bool) {
	rest, is := strings.CutPrefix(p.s[p.at:], "<<")
	if !is {
		return api.Token{}, false
	}
	word, mark := heredocWord(rest)
	if !IsWord(word) {
		return api.Token{}, false
	}
	lines := p.lines(word)
	p.at += len("<<") + len(mark) + len(word) + len(mark)
	if mark == `'` {
		return api.Token{Kind: api.KStr, Text: lines}, true
	}
	return api.Token{Kind: api.KInter, Text: inter(lines, '"')}, true
}

// heredocWord returns what a heredoc could be called, and the mark on both sides of it, perhaps none.
func heredocWord(s string) (string, string) {
	for _, mark := range []string{`'`, `"`} {
		if inner, is := strings.CutPrefix(s, mark); is {
			word, _, ends := strings.Cut(inner, mark)
			if !ends {
				return "", ""
			}
			return word, mark
		}
	}
	return s[:wordLength(s)], ""
}

// lines returns the lines of a heredoc that begins here, and notes where the source goes on behind them.
func (p *scanner) lines(word string) string {
	length := strings.IndexByte(p.s[p.at:], '\n')
	if length < 0 {
		panic(wrong(p.at))
	}
	end := p.at + length
	begin, is := p.goesOn[end]
	if !is {
		begin = end + 1
	}
	for at := begin; at < len(p.s); {
		line, _, more := strings.Cut(p.s[at:], "\n")
		behind := at + len(line)
		if more {
			behind++
		}
		if line == word {
			p.goesOn[end] = behind
			return p.s[begin:at]
		}
		at = behind
	}
	panic(wrong(p.at))
}
