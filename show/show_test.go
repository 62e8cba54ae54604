package show_test

import (
	"fmt"
	"slices"
	"strings"
	"testing"

	"motley/api"
	"motley/show"
	"motley/tree"
)

func equal(k, l []int) bool       { return slices.Equal(k, l) }
func long(s string, n int) string { return strings.Repeat(s, n) }

// program returns the program of a source.
func program(t *testing.T, s string) []api.Node {
	t.Helper()
	p, at, e := tree.Parse(s)
	if e != api.OK {
		t.Fatalf("%q is not read: %d at %d", s, e, at)
	}
	return p
}

// formatted returns Format of a source, or its error.
func formatted(s string) string {
	f, e := show.Format(s)
	if e != api.OK {
		return fmt.Sprint(f, "error ", e)
	}
	return f
}

// lines returns lines, each with its end.
func lines(l ...string) string {
	return strings.Join(l, "\n") + "\n"
}
