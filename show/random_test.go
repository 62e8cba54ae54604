package show_test

import (
	"math/rand"
	"testing"

	"motley/api"
	"motley/show"
	"motley/tree"
)

// maker puts random pieces into random forms.
type maker struct {
	*testing.T
	r *rand.Rand
}

// piece makes what may be put into a hole, with at most depth forms in each other.
func (m maker) piece(hole string, depth int) piece {
	forms := formsFor(hole)
	form := forms[m.r.Intn(len(forms))]
	for range 20 {
		if depth > 1 && m.r.Intn(8) > 0 == (len(holesOf(form)) > 0) || depth <= 1 && len(holesOf(form)) == 0 {
			break
		}
		form = forms[m.r.Intn(len(forms))]
	}
	var fill [][]piece
	for _, hole := range holesOf(form) {
		fill = append(fill, m.pieces(hole, depth-1))
	}
	return compose(m.T, form, fill)
}

func (m maker) pieces(hole string, depth int) []piece {
	n := 1
	switch {
	case hole == "l" || hole == "p" || hole == "t":
		n = m.r.Intn(4)
	case hole == "b":
		n = m.r.Intn(3)
	}
	var l []piece
	for range n {
		if depth < -6 {
			// Elements have elements as their first parts, and so on.
			return first(m.T, hole)
		}
		l = append(l, m.piece(hole, depth))
	}
	return l
}

// P5.1, S3: programs of random forms in each other.
func TestRandomPrograms(t *testing.T) {
	m := maker{t, rand.New(rand.NewSource(5))}
	fit := 0
	for i := range 2000 {
		l := m.pieces("b", 2+i%6)
		if tree.Validate(nodesOf(l)) == api.OK && len(l) > 0 {
			fit++
		}
		holdPrinted(t, l)
	}
	if fit < 800 {
		t.Errorf("only %d programs were small enough", fit)
	}
}

// P5.2: the lines and differences of random programs.
func TestRandomLines(t *testing.T) {
	m := maker{t, rand.New(rand.NewSource(55))}
	var before []api.Node
	for range 600 {
		var l []piece
		var want []int
		line := 1
		for range m.r.Intn(6) {
			x := m.piece("b", 3)
			l = append(l, x)
			want = append(want, line)
			for _, c := range textOf([]piece{x}) {
				if c == '\n' {
					line++
				}
			}
		}
		p := nodesOf(l)
		if tree.Validate(p) != api.OK || len(textOf(l)) > api.MaxSource {
			continue
		}
		if lines, e := show.Lines(p); e != api.OK || !equal(lines, want) {
			t.Fatalf("Lines: %v %d, not %v\n%s", lines, e, want, textOf(l))
		}
		holdDifferent(t, before, p)
		before = p
	}
}

// holdDifferent holds Differ of two programs against their texts, which are different where they are.
func holdDifferent(t *testing.T, p, q []api.Node) {
	t.Helper()
	text := func(l []api.Node, i int) string {
		if i >= len(l) {
			return ""
		}
		s, e := show.Print(l[i : i+1])
		if e != api.OK {
			t.Fatalf("Print: %d", e)
		}
		return s
	}
	var want []int
	for i := range max(len(p), len(q)) {
		if text(p, i) != text(q, i) {
			want = append(want, i)
		}
	}
	for _, l := range [][2][]api.Node{{p, q}, {q, p}} {
		if got, e := show.Differ(l[0], l[1]); e != api.OK || !equal(got, want) {
			t.Fatalf("Differ: %v %d, not %v", got, e, want)
		}
	}
}
