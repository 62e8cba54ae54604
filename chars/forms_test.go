package chars_test

import (
	"strings"
	"testing"

	"motley/api"
	"motley/chars"
)

// join is the text of characters that are written as hexadecimal numbers with blanks between them.
func join(numbers string) string {
	var b strings.Builder
	for _, s := range strings.Fields(numbers) {
		b.WriteRune(rune(hex(s)))
	}
	return b.String()
}

// ligature is the member of a list that belongs to a character from FB00 to FB06.
func ligature(c int, forms string) string {
	return join(strings.Split(forms, ", ")[c-0xFB00])
}

// smallOf, capitalOf and foldOf are the forms in the words of the chapter.
func smallOf(c int) string {
	switch {
	case among(c, "41 to 5A, C0 to DE but D7, 391 to 3A9 but 3A2, 410 to 42F"):
		return string(rune(c + 0x20))
	case c == 0x1E9E:
		return join("DF")
	case c == 0x212A:
		return join("6B")
	case c == 0x212B:
		return join("E5")
	}
	return string(rune(c))
}

func capitalOf(c int) string {
	switch {
	case among(c, "61 to 7A, E0 to FE but F7, 3B1 to 3C9 but 3C2, 430 to 44F"):
		return string(rune(c - 0x20))
	case c == 0x3C2:
		return join("3A3")
	case c == 0x17F:
		return join("53")
	case c == 0xDF:
		return join("53 53")
	case c == 0x149:
		return join("2BC 4E")
	case among(c, "FB00 to FB06"):
		return ligature(c, "46 46, 46 49, 46 4C, 46 46 49, 46 46 4C, 53 54, 53 54")
	}
	return string(rune(c))
}

func foldOf(c int) string {
	switch {
	case c == 0xB5:
		return join("3BC")
	case among(c, "DF, 1E9E"):
		return join("73 73")
	case c == 0x149:
		return join("2BC 6E")
	case c == 0x17F:
		return join("73")
	case c == 0x3C2:
		return join("3C3")
	case among(c, "FB00 to FB06"):
		return ligature(c, "66 66, 66 69, 66 6C, 66 66 69, 66 66 6C, 73 74, 73 74")
	}
	return smallOf(c)
}

// titleOf is a capital form of which all but the first character are made small.
func titleOf(c int) string {
	var b strings.Builder
	for i, r := range capitalOf(c) {
		if i == 0 {
			b.WriteRune(r)
		} else {
			b.WriteString(smallOf(int(r)))
		}
	}
	return b.String()
}

// P2.2
func TestFormsOfCharacters(t *testing.T) {
	for _, c := range looked() {
		s := string(rune(c))
		expect(t, "Lower", chars.Lower, s, smallOf(c))
		expect(t, "Upper", chars.Upper, s, capitalOf(c))
		expect(t, "Fold", chars.Fold, s, foldOf(c))
		expect(t, "Title", chars.Title, s, titleOf(c))
		expect(t, "Lower", chars.Lower, "x"+s+"Y", "x"+smallOf(c)+"y")
		expect(t, "Upper", chars.Upper, "x"+s+"Y", "X"+capitalOf(c)+"Y")
		expect(t, "Fold", chars.Fold, "x"+s+"Y", "x"+foldOf(c)+"y")
		expect(t, "Title", chars.Title, "x"+s+"Y", "X"+smallOf(c)+"y")
		expect(t, "Title", chars.Title, s+s+"Y", titleOf(c)+smallOf(c)+"y")
	}
}

func expect(t *testing.T, name string, f func(string) (string, api.Errno), s, want string) {
	t.Helper()
	if got, e := f(s); got != want || e != api.OK {
		t.Errorf("%s of %.20q: %.20q, %d, not %.20q", name, s, got, e, want)
	}
}

// P2.2: the examples of the chapter, and texts of more than one character.
func TestFormsOfTexts(t *testing.T) {
	expect(t, "Fold", chars.Fold, "Stra\u00dfe", "strasse")
	expect(t, "Upper", chars.Upper, "Stra\u00dfe", "STRASSE")
	expect(t, "Title", chars.Title, "\ufb01X", "Fix")
	expect(t, "Title", chars.Title, "\u0149X", "\u02bcnx")
	expect(t, "Title", chars.Title, "\u00df\u00df", "Ss\u00df")
	expect(t, "Title", chars.Title, "hELLO wORLD", "Hello world")
	expect(t, "Title", chars.Title, "1aB", "1ab")
	expect(t, "Title", chars.Title, "\u1e9eA", "\u1e9ea")
	expect(t, "Lower", chars.Lower, "\u0391\u03a3\u03a3", "\u03b1\u03c3\u03c3")
	expect(t, "Upper", chars.Upper, "\u03c2\u03c3", "\u03a3\u03a3")
	for _, f := range []func(string) (string, api.Errno){chars.Lower, chars.Upper, chars.Title, chars.Fold} {
		expect(t, "the form", f, "", "")
		expect(t, "the form", f, "\u00d7\u03a2 1", "\u00d7\u03a2 1")
	}
}

// P2.1: a text may be too large only after its forms are put in.
func TestFormsAreLarge(t *testing.T) {
	n := long("\u0149", api.MaxText/2)
	for name, f := range map[string]func(string) (string, api.Errno){"Upper": chars.Upper, "Fold": chars.Fold} {
		for _, s := range []string{n, filled("\u0149", api.MaxText), long("a", api.MaxText-2) + "\u0149"} {
			if got, e := f(s); got != "" || e != api.ErrLarge {
				t.Errorf("%s of %.10q: %.10q, %d", name, s, got, e)
			}
		}
	}
	expect(t, "Upper", chars.Upper, filled("\u0149", api.MaxText-1), "\u02bcN"+long("A", api.MaxText-3))
	expect(t, "Fold", chars.Fold, filled("\u0149", api.MaxText-1), filled("\u02bcn", api.MaxText))
	if got, e := chars.Title(filled("\u0149", api.MaxText)); got != "" || e != api.ErrLarge {
		t.Errorf("Title: %.10q, %d", got, e)
	}
	expect(t, "Title", chars.Title, filled("\u0149", api.MaxText-1), filled("\u02bcn", api.MaxText))
	expect(t, "Title", chars.Title, "a"+long("\u0149", 2047), "A"+long("\u0149", 2047))
	expect(t, "Lower", chars.Lower, n, n)
	expect(t, "Lower", chars.Lower, long("A", api.MaxText), long("a", api.MaxText))
	expect(t, "Upper", chars.Upper, long("\u00df", api.MaxText/2), long("S", api.MaxText))
}

// P2.2 (Consequence.)
func TestFormsTwice(t *testing.T) {
	for _, c := range looked() {
		s := "a" + string(rune(c)) + "B"
		fold, _ := chars.Fold(s)
		expect(t, "Fold of Fold", chars.Fold, fold, fold)
		small, _ := chars.Lower(s)
		expect(t, "Lower of Lower", chars.Lower, small, small)
	}
}

// P2.2
func TestSameFold(t *testing.T) {
	for _, c := range []struct {
		s, t string
		want bool
	}{
		{"", "", true},
		{"", "a", false},
		{"a", "A", true},
		{"a", "ab", false},
		{"Stra\u00dfe", "STRASSE", true},
		{"\u1e9e", "\u00df", true},
		{"\ufb03", "FFI", true},
		{"\ufb05", "\ufb06", true},
		{"\u212a", "k", true},
		{"\u212b", "\u00e5", true},
		{"\u017f", "S", true},
		{"\u03c2", "\u03a3", true},
		{"\u00b5", "\u039c", true},
		{"\u0149", "\u02bcN", true},
		{"i", "\u0131", false},
		{"\u00ff", "\u0178", false},
		{"e\u0301", "\u00e9", false},
		{"a b", "a  b", false},
		{long("\u0149", api.MaxText/2), long("\u0149", api.MaxText/2), true},
		{long("\u0149", api.MaxText/2), filled("\u0149", api.MaxText), false},
	} {
		if is, e := chars.SameFold(c.s, c.t); is != c.want || e != api.OK {
			t.Errorf("SameFold(%.10q, %.10q): %t, %d", c.s, c.t, is, e)
		}
		if is, e := chars.SameFold(c.t, c.s); is != c.want || e != api.OK {
			t.Errorf("SameFold(%.10q, %.10q): %t, %d", c.t, c.s, is, e)
		}
	}
}
