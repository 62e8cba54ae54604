package lex_test

import (
	"fmt"
	"math/rand"
	"regexp"
	"strings"
	"testing"

	"motley/api"
	"motley/lex"
)

var (
	slashes   = regexp.MustCompile(`/`)
	halves    = regexp.MustCompile(`[/\\]`)
	marks     = regexp.MustCompile(`['\\]`)
	roundOnes = regexp.MustCompile(`[()\\]`)
	// What is told of a token, as kind, Open and Text, behind which an operator is expected, or what was expected before it.
	operatorBehind = regexp.MustCompile(`^(?:[124-9]/.*|3/-?\d+/[)\]]|3/[23]/})$`)
	sameBehind     = regexp.MustCompile(`^3/-?\d+/(?:\+\+|--)$`)
)

// writeToken writes a token as P3.2 says, by regular expressions.
func writeToken(t api.Token) string {
	behindHalf := func(r *regexp.Regexp, s string) string { return r.ReplaceAllString(s, `\$0`) }
	switch t.Kind {
	case api.KStr:
		return "'" + behindHalf(marks, t.Text) + "'"
	case api.KInter:
		return `"` + t.Text + `"`
	case api.KWords:
		return "qw(" + behindHalf(roundOnes, t.Text) + ")"
	case api.KPat:
		return "m/" + behindHalf(slashes, t.Text) + "/" + t.More
	case api.KSubst:
		return "s/" + behindHalf(slashes, t.Text) + "/" + behindHalf(slashes, t.Repl) + "/" + t.More
	case api.KTrans:
		return "tr/" + behindHalf(halves, t.Text) + "/" + behindHalf(halves, t.Repl) + "/" + t.More
	}
	return t.Text
}

// writeAll is the source that P3.2 says for tokens: each blank is written, and then taken out where there is none.
func writeAll(l []api.Token) string {
	var parts []string
	term := true
	for i, t := range l {
		if i > 0 && t.Kind == api.KSign && t.Text == "{" && t.Open == 2 {
			parts[2*i-1] = ""
		}
		parts = append(parts, writeToken(t), " ")
		follows := ""
		if i+1 < len(l) {
			follows = writeToken(l[i+1])
		}
		if term && t.Kind == api.KSign && (t.Text == "$" || t.Text == "@" || (t.Text == "%" || t.Text == "&") && strings.HasPrefix(follows, "$")) {
			parts[2*i+1] = ""
		}
		name := fmt.Sprintf("%d/%d/%s", t.Kind, t.Open, strings.ReplaceAll(t.Text, "\n", " "))
		if !sameBehind.MatchString(name) {
			term = !operatorBehind.MatchString(name) && (t.Kind != api.KWord || termWords.MatchString(t.Text))
		}
	}
	if len(l) == 0 {
		return ""
	}
	return strings.Join(parts[:len(parts)-1], "")
}

// parts are what the texts of random tokens are, beside those of signs.
var parts = []string{"", "", "x", "a", "if", "q", "1", "$x", "$a", "$$", "$", "@", "@x", "%", "%x", "&", "&x", "{", "}", "#", "/", "\\", "'", "\"", ";", "a b", ")", "\xff", "abcdefghijklm"}

func randomToken(r *rand.Rand) api.Token {
	if r.Intn(2) == 0 {
		signs := []string{"$", "$", "@", "@", "%", "%", "&", "&", "{", "{", "{", "}", "}", ")", "]", "++", "--", ";", ":", "+", "->", "(", ","}
		t := api.Token{Kind: api.KSign, Text: signs[r.Intn(len(signs))]}
		if t.Text == "{" || t.Text == "}" {
			t.Open = r.Intn(5)
		}
		return t
	}
	kinds := []int{-1, 10, api.KWord, api.KWord, api.KWord, api.KNum, api.KNum, api.KVar, api.KVar, api.KVar, api.KSign, api.KStr, api.KInter, api.KWords, api.KPat, api.KSubst, api.KTrans}
	t := api.Token{Kind: kinds[r.Intn(len(kinds))], Text: parts[r.Intn(len(parts))]}
	if t.Kind >= api.KSubst {
		t.Repl = parts[r.Intn(len(parts))]
	}
	return t
}

// P3.2: random tokens are written as the writer writes them, or refused for what the reader says of that source.
func TestRandomTokens(t *testing.T) {
	r := rand.New(rand.NewSource(32))
	counts := map[api.Errno]int{}
	for range 60000 {
		var l []api.Token
		for range r.Intn(7) {
			l = append(l, randomToken(r))
		}
		s := writeAll(l)
		tokens, _, _, want := readAll(s)
		if want == api.OK && !lex.Same(tokens, l) {
			want = api.ErrArg
		}
		if want != api.OK {
			s = ""
		}
		counts[want]++
		if j, e := lex.Join(l); j != s || e != want {
			t.Fatalf("Join of %+v: %q %d, not %q %d", l, j, e, s, want)
		}
	}
	for e, least := range map[api.Errno]int{api.OK: 3000, api.ErrArg: 3000, api.ErrSyntax: 3000} {
		if counts[e] < least {
			t.Errorf("only %d cases of %d", counts[e], e)
		}
	}
}
