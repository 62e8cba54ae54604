package tree_test

import (
	"math/rand"
	"regexp"
	"slices"
	"strings"
	"testing"

	"motley/api"
	"motley/lex"
	"motley/tree"
)

// grammar is the grammar of the chapter. What the chapter says in words of posts, keys and names alone is written out in post, plain, call, element and access: after what it may stand decides what each of them is.
const grammar = `
program = { stmt }
block = "{b" { stmt } "}"
stmt = ";" | [ name ":" ] block | "sub" name block | "package" name ";"
     | ( "if" | "unless" ) "(" expr ")" block { "elsif" "(" expr ")" block } [ "else" block ]
     | [ name ":" ] ( "while" | "until" ) "(" expr ")" block
     | [ name ":" ] "for" [ "my" ownscalar ] "(" [ list ] ")" block
     | "return" [ expr ] ";" | ( "last" | "next" ) [ name ] ";" | ( "BEGIN" | "END" ) block
     | expr [ ( "if" | "unless" ) expr ] ";"
expr = low { "or" low }
low = neg { "and" neg }
neg = "not" neg | assign
assign = cond [ ( "=" | "+=" | "-=" | "*=" | "/=" | "%=" | ".=" | "||=" | "&&=" | "//=" ) assign ]
cond = range [ "?" assign ":" assign ]
range = dor [ ".." dor ]
dor = both { ( "||" | "//" ) both }
both = bits { "&&" bits }
bits = equal { ( "&" | "|" | "^" ) equal }
equal = rel [ ( "==" | "!=" | "<=>" | "eq" | "ne" | "cmp" ) rel ]
rel = sum [ ( "<" | ">" | "<=" | ">=" | "lt" | "gt" | "le" | "ge" ) sum ]
sum = prod { ( "+" | "-" | "." ) prod }
prod = bind { ( "*" | "/" | "%" | "x" ) bind }
bind = unary [ ( "=~" | "!~" ) ( pat | subst | trans ) ]
unary = ( "!" | "-" | "\" ) unary | ( "++" | "--" ) unary | post [ "++" | "--" ]
post = plain | call | element
plain = term | name "->" arrowname | post "->" arrowname
arrowname = name [ "(" [ list ] ")" ]
call = ( post | name ) "->" "(" [ list ] ")" | ( call | element ) "(" [ list ] ")"
element = access | ( post | name ) "->" ( "[" expr "]" | "{k" key "}" ) | element ( "[" expr "]" | "{k" key "}" )
access = ( scalarword | "$" ( "{k" expr "}" | scalar ) ) ( "[" expr "]" | "{k" key "}" )
key = word | expr
list = assign { ( "," | "=>" ) assign } [ "," ]
term = num | text | inter | words | pat | subst | trans | "(" [ list ] ")" | "[" [ list ] "]" | "{h" [ list ] "}"
     | scalar | array [ "[" [ list ] "]" | "{k" [ list ] "}" ] | hash | code "(" [ list ] ")"
     | ( "$" | "%" ) ( "{k" expr "}" | scalar ) | "@" ( "{k" expr "}" | scalar ) [ "[" [ list ] "]" | "{k" [ list ] "}" ]
     | "&" ( "{k" expr "}" | scalar ) "(" [ list ] ")"
     | ( "my" | "our" ) ( own | "(" own { "," own } ")" ) | "local" unary
     | "sub" block | "do" block | "eval" block | ( "map" | "grep" | "sort" ) block "(" [ list ] ")"
     | name "(" [ list ] ")" | function "(" [ list ] ")"
`

// A rule is a name and what it may consist of: names of rules, and terminals.
type rules map[string][][]string

var pieceOfGrammar = regexp.MustCompile(`"[^"]*"|[a-z]+|[=|{}()\[\]]`)

// reader reads a grammar and makes a rule of its own for each group.
type reader struct {
	pieces []string
	rules  rules
	groups int
}

func readGrammar(s string) rules {
	r := &reader{pieces: pieceOfGrammar.FindAllString(s, -1), rules: rules{}}
	for len(r.pieces) > 0 {
		name := r.pieces[0]
		r.pieces = r.pieces[2:]
		r.rules[name] = r.alternatives()
	}
	return r.rules
}

func (r *reader) next(want ...string) bool {
	return len(r.pieces) > 0 && slices.Contains(want, r.pieces[0])
}

func (r *reader) alternatives() [][]string {
	var l [][]string
	for {
		l = append(l, r.row())
		if !r.next("|") {
			return l
		}
		r.pieces = r.pieces[1:]
	}
}

func (r *reader) row() []string {
	var row []string
	for len(r.pieces) > 0 && !r.next("|", ")", "]", "}") && !(len(r.pieces) > 1 && r.pieces[1] == "=") {
		piece := r.pieces[0]
		r.pieces = r.pieces[1:]
		if len(piece) > 1 || !strings.Contains("([{", piece) {
			row = append(row, piece)
			continue
		}
		l := r.alternatives()
		r.pieces = r.pieces[1:]
		r.groups++
		name := "group" + string(rune('0'+r.groups/100)) + string(rune('0'+r.groups/10%10)) + string(rune('0'+r.groups%10))
		switch piece {
		case "[":
			l = append(l, nil)
		case "{":
			for i := range l {
				l[i] = append(slices.Clone(l[i]), name)
			}
			l = append(l, nil)
		}
		r.rules[name] = l
		row = append(row, name)
	}
	return row
}

// fits reports whether a token, before another one, is a terminal.
func fits(terminal string, t, next api.Token) bool {
	if literal, is := strings.CutPrefix(terminal, `"`); is {
		literal = strings.TrimSuffix(literal, `"`)
		if len(literal) == 2 && literal[0] == '{' {
			return t.Kind == api.KSign && t.Text == "{" && t.Open == strings.Index("?bkh", literal[1:])
		}
		return (t.Kind == api.KSign || t.Kind == api.KWord) && t.Text == literal
	}
	isVariable := func(sigils string) bool { return t.Kind == api.KVar && strings.Contains(sigils, t.Text[:1]) }
	isWord := func(s string) bool { return lex.IsWord(s) }
	isOwn := func(s string) bool { return isWord(s) && s != "_" && !strings.Contains(s, "::") }
	isFunction := slices.Contains(functionNames(), t.Text)
	switch terminal {
	case "name":
		return t.Kind == api.KWord && !isFunction && !slices.Contains(grammarWords, t.Text)
	case "function":
		return t.Kind == api.KWord && isFunction
	case "word":
		return t.Kind == api.KWord
	case "num":
		return t.Kind == api.KNum && len(t.Text) <= 15 && (t.Text == "0" || t.Text[0] != '0')
	case "text":
		return t.Kind == api.KStr || t.Kind == api.KWord && next.Kind == api.KSign && next.Text == "=>"
	case "scalar":
		return isVariable("$")
	case "scalarword":
		return isVariable("$") && isWord(t.Text[1:])
	case "array":
		return isVariable("@")
	case "hash":
		return isVariable("%")
	case "code":
		return isVariable("&")
	case "own":
		return isVariable("$@%") && isOwn(t.Text[1:])
	case "ownscalar":
		return isVariable("$") && isOwn(t.Text[1:])
	}
	kinds := map[string]int{"inter": api.KInter, "words": api.KWords, "pat": api.KPat, "subst": api.KSubst, "trans": api.KTrans}
	kind, is := kinds[terminal]
	return is && t.Kind == kind
}

// state is how far an alternative of a rule has been read, from where on.
type state struct {
	rule            string
	alternative, at int
	from            int
}

// firstMisfit is the number of the first token such that what stands up to it begins no text of a rule, or of tokens if what there is only begins one; -1 if it is one.
func firstMisfit(g rules, rule string, tokens []api.Token) int {
	rows := make([]map[state]bool, len(tokens)+1)
	lists := make([][]state, len(tokens)+1)
	for i := range rows {
		rows[i] = map[state]bool{}
	}
	add := func(i int, s state) {
		if !rows[i][s] {
			rows[i][s] = true
			lists[i] = append(lists[i], s)
		}
	}
	begin := func(i int, rule string) {
		for k := range g[rule] {
			add(i, state{rule, k, 0, i})
		}
	}
	waits := func(s state) string {
		if row := g[s.rule][s.alternative]; s.at < len(row) {
			return row[s.at]
		}
		return ""
	}
	begin(0, rule)
	for i := range lists {
		if len(lists[i]) == 0 {
			return i - 1
		}
		for k := 0; k < len(lists[i]); k++ {
			s := lists[i][k]
			wanted := waits(s)
			_, isRule := g[wanted]
			switch {
			case isRule:
				begin(i, wanted)
				// One that was read from here to here may be passed at once.
				for alternative, row := range g[wanted] {
					if rows[i][state{wanted, alternative, len(row), i}] {
						add(i, state{s.rule, s.alternative, s.at + 1, s.from})
					}
				}
			case wanted != "":
				var next api.Token
				if i+1 < len(tokens) {
					next = tokens[i+1]
				} else {
					next.Kind = -1
				}
				if i < len(tokens) && fits(wanted, tokens[i], next) {
					add(i+1, state{s.rule, s.alternative, s.at + 1, s.from})
				}
			default:
				for _, u := range lists[s.from] {
					if waits(u) == s.rule {
						add(i, state{u.rule, u.alternative, u.at + 1, u.from})
					}
				}
			}
		}
	}
	n := len(tokens)
	for k, row := range g[rule] {
		if rows[n][state{rule, k, len(row), 0}] {
			return -1
		}
	}
	return n
}

// checked holds Parse of a source against the grammar, and returns whether it was read and whether it was refused by what the grammar does not say: by a left side or arguments.
func checked(t *testing.T, g rules, s string) (read, beside bool) {
	t.Helper()
	tokens, _, e := lex.Lex(s)
	if e != api.OK || len(tokens) > 150 {
		return false, false
	}
	want := firstMisfit(g, "program", tokens)
	_, n, e := tree.Parse(s)
	switch {
	case e == api.OK || e == api.ErrLarge:
		if want >= 0 {
			t.Fatalf("Parse of %q: no error, not one at %d", s, want)
		}
		return true, false
	case n == want:
		return false, false
	case want >= 0 && n > want || n >= len(tokens):
		t.Fatalf("Parse of %q: an error at %d, not %d", s, n, want)
	}
	token := tokens[n].Text
	isCall := token == "(" && n > 0 && slices.Contains(functionNames(), tokens[n-1].Text)
	if !isCall && !isOneOf(token, append([]string{"=", "++", "--", "local"}, updates...)...) {
		t.Fatalf("Parse of %q: an error at %d, not %d", s, n, want)
	}
	return false, true
}

// P4.1: what is read, and the first token that does not fit, of programs of which parts are taken out, put in, or exchanged.
func TestGrammar(t *testing.T) {
	g := readGrammar(grammar)
	r := rand.New(rand.NewSource(444))
	m := maker{r}
	reads, besides, all := 0, 0, 0
	for i := range 3000 {
		p := m.statements(3+i%5, 2)
		s := writer{r}.statements(p)
		if len(s) > 200 {
			continue
		}
		all++
		for range r.Intn(4) {
			s = disturbed(r, s)
		}
		read, beside := checked(t, g, s)
		if read {
			reads++
		}
		if beside {
			besides++
		}
	}
	if all < 1500 || reads < 500 || besides < 15 {
		t.Errorf("of %d sources %d were read, %d refused by a left side or arguments", all, reads, besides)
	}
}

// spare are texts of tokens, and of some that stand together.
var spare = strings.Fields("( ) [ ] { } , ; : ? \\ = == < .. + - * / % & | && || // ! =~ !~ => -> ++ -- += ||= $ @ $x @x %x &x $_ $1 $@ $x[0] $x{a} ->[0] ->{a} ->(1) ->n (1) [0] {a} f A print pop f() A-> my our local sub return package last next if unless elsif else while until for do eval map grep sort and or not x lt eq cmp BEGIN END q 0 1 007 'a' \"a$x\" /a/ s/a/b/ tr/a/b/ qw(a) L: @{$x} ${$x} ${ %{ &{ %$x &$x( if( {} sub{} my$y () =1 pop(1) ++1 local")

// disturbed takes a part of a source out, or puts something into it.
func disturbed(r *rand.Rand, s string) string {
	tokens, _, e := lex.Lex(s)
	if e != api.OK || len(tokens) == 0 {
		return s
	}
	place := func() int {
		if i := r.Intn(len(tokens) + 1); i < len(tokens) {
			return tokens[i].At
		}
		return len(s)
	}
	from := place()
	switch r.Intn(3) {
	case 0:
		return s[:from] + " " + spare[r.Intn(len(spare))] + " " + s[from:]
	case 1:
		to := place()
		return s[:min(from, to)] + s[max(from, to):]
	}
	to := len(s)
	for _, u := range tokens {
		if u.At > from {
			to = u.At
			break
		}
	}
	return s[:from] + spare[r.Intn(len(spare))] + s[to:]
}

// P4.1: likewise of sources of few tokens.
func TestGrammarOfFewTokens(t *testing.T) {
	g := readGrammar(grammar)
	r := rand.New(rand.NewSource(4444))
	for range 5000 {
		s := ""
		for range 1 + r.Intn(9) {
			s += spare[r.Intn(len(spare))]
			if r.Intn(3) > 0 {
				s += " "
			}
		}
		checked(t, g, s)
	}
	for _, a := range spare {
		for _, s := range []string{"%", "$x %", "$y = %;", "f(%)", "f() %", "$x{%}", "@x[%]", "{%}", "L: %", "[1 %]", "-%", "my %", "if (1) %", "$x->%", "for %", "(1, %"} {
			checked(t, g, strings.Replace(s, "%", a, 1))
		}
	}
}
