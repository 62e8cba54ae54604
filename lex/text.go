package lex

import "strings"

// plain is the text of what stands in a quote without interpolation.
func plain(raw string, open byte) string {
	return eachPiece(raw, func(piece string) string {
		if len(piece) == 2 && (piece[1] == '\\' || delimits(piece[1], open)) {
			return piece[1:]
		}
		return piece
	})
}

// inter is what would stand between `"` and `"` for what stands in a quote with interpolation.
func inter(raw string, open byte) string {
	return eachPiece(raw, func(piece string) string {
		switch {
		case piece == `"`:
			return `\"`
		case len(piece) == 2 && piece[1] != '"' && delimits(piece[1], open):
			return piece[1:]
		}
		return piece
	})
}

// withoutSlashes makes each `\/` a `/`.
func withoutSlashes(raw string) string {
	return eachPiece(raw, func(piece string) string {
		if piece == `\/` {
			return "/"
		}
		return piece
	})
}

// delimits reports whether a byte is a delimiter of a quote that open begins.
func delimits(c, open byte) bool { return c == open || c == partner(open) }

// eachPiece puts together what change makes of each byte of a text, or of each `\` with the byte that it takes along.
func eachPiece(raw string, change func(string) string) string {
	var b strings.Builder
	for len(raw) > 0 {
		n := 1
		if raw[0] == '\\' && len(raw) > 1 {
			n = 2
		}
		b.WriteString(change(raw[:n]))
		raw = raw[n:]
	}
	return b.String()
}
