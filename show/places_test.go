package show_test

import (
	"testing"

	"motley/api"
	"motley/lex"
	"motley/show"
	"motley/tree"
)

// first returns the first piece that may be put into a hole.
func first(t *testing.T, hole string) []piece {
	switch hole {
	case "b":
		return []piece{compose(t, "last;", nil)}
	case "M":
		return []piece{compose(t, "m//ig", nil)}
	case "E":
		return []piece{compose(t, "$a[«e»]", [][]piece{{compose(t, "12", nil)}})}
	}
	for _, form := range formsFor(hole) {
		if len(holesOf(form)) == 0 {
			return []piece{compose(t, form, nil)}
		}
	}
	t.Fatalf("nothing for a hole %s", hole)
	return nil
}

// sample puts into each hole of a form the first piece, but into one of them another.
func sample(t *testing.T, form string, at int, other []piece) piece {
	var fill [][]piece
	for i, hole := range holesOf(form) {
		l := first(t, hole)
		if i == at {
			l = other
		}
		fill = append(fill, l)
	}
	return compose(t, form, fill)
}

// statementOf returns an expression as a statement.
func statementOf(t *testing.T, x piece) piece {
	return compose(t, "«f»;", [][]piece{{x}})
}

// holdPrinted holds what is printed of statements against what should be, and what is read from it against them.
func holdPrinted(t *testing.T, l []piece) {
	t.Helper()
	p, want := nodesOf(l), textOf(l)
	if e := tree.Validate(p); e != api.OK {
		if e != api.ErrLarge {
			t.Fatalf("Validate: %d\n%s", e, want)
		}
		return
	}
	s, e := show.Print(p)
	if len(want) > api.MaxSource {
		if s != "" || e != api.ErrLarge {
			t.Fatalf("Print of a program of %d bytes: %d bytes, %d", len(want), len(s), e)
		}
		return
	}
	if s != want || e != api.OK {
		t.Fatalf("Print: %d\n%snot\n%s", e, s, want)
	}
	holdRead(t, p, s)
}

// holdRead holds what is read from the text of a program against the program.
func holdRead(t *testing.T, p []api.Node, s string) {
	t.Helper()
	q, _, e := tree.Parse(s)
	if e == api.ErrLarge {
		return
	}
	if e != api.OK || !tree.Same(p, q) {
		t.Fatalf("Parse: %d %+v\nnot %+v\n%s", e, q, p, s)
	}
	if is, e := show.IsFormatted(s); !is || e != api.OK {
		t.Fatalf("IsFormatted: %t %d\n%s", is, e, s)
	}
	tokens, _, _ := lex.Lex(s)
	joined, e := lex.Join(tokens)
	if e != api.OK {
		// It has become too long.
		return
	}
	if formatted, e := show.Format(joined); formatted != s || e != api.OK {
		t.Fatalf("Format of\n%s\n%d\n%snot\n%s", joined, e, formatted, s)
	}
}

// P5.1, S3: each kind of expression in each place, by itself and in two blocks.
func TestEachKindInEachPlace(t *testing.T) {
	kinds := map[string][]piece{}
	for _, hole := range []string{"e", "A", "H", "E", "P", "M", "L", "u", "v", "b"} {
		for _, form := range formsFor(hole) {
			kinds[hole] = append(kinds[hole], sample(t, form, -1, nil))
		}
	}
	kindsFor := func(hole string) []piece {
		switch hole {
		case "w":
			hole = "u"
		case "V":
			hole = "v"
		}
		if l, is := kinds[hole]; is {
			return l
		}
		return kinds["e"]
	}
	for _, form := range append(exprs, statements...) {
		for at, hole := range holesOf(form) {
			for _, kind := range kindsFor(hole) {
				x := sample(t, form, at, []piece{kind})
				if x.node.Op < api.NExpr {
					x = statementOf(t, x)
				}
				holdPrinted(t, []piece{x})
			}
		}
	}
}

// P5.1: lists, slices and blocks of no, one and several parts, in blocks, so that what stands within an expression has the blanks of its line.
func TestHowManyParts(t *testing.T) {
	several := map[string][]piece{}
	for _, s := range []string{"@a", "sub «b»", "{«l»}", "(«e»,)"} {
		several["l"] = append(several["l"], sample(t, s, -1, nil))
	}
	for _, s := range []string{"last;", "return «f»;", "L: «b»"} {
		several["b"] = append(several["b"], sample(t, s, -1, nil))
	}
	several["p"], several["t"] = several["l"], several["l"]
	for _, form := range append(exprs, statements...) {
		for at, hole := range holesOf(form) {
			if len(several[hole]) == 0 {
				continue
			}
			for n := range len(several[hole]) + 1 {
				x := sample(t, form, at, several[hole][:n])
				if x.node.Op < api.NExpr {
					x = statementOf(t, x)
				}
				holdPrinted(t, []piece{x, x})
				x = sample(t, "while («e») «b»", 1, []piece{x})
				holdPrinted(t, []piece{sample(t, "sub f «b»", 0, []piece{x, x})})
			}
		}
	}
}
