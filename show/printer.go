package show

import (
	"strings"

	"motley/api"
)

// blanks stand at the begin of a line for each block around it.
const blanks = "    "

// printer is what is written of a program.
type printer struct {
	strings.Builder
	depth int // how many blocks are around
}

// source returns what is written, if it is no longer than a source may be.
func (p *printer) source() (string, api.Errno) {
	if p.Len() > api.MaxSource {
		return "", api.ErrLarge
	}
	return p.String(), api.OK
}

// indent begins a line.
func (p *printer) indent() {
	p.WriteString(strings.Repeat(blanks, p.depth))
}

// parts writes expressions with commas between.
func (p *printer) parts(l []api.Node) {
	for i, n := range l {
		if i > 0 {
			p.WriteString(", ")
		}
		p.expr(n)
	}
}

// between writes expressions between two signs.
func (p *printer) between(from string, l []api.Node, to string) {
	p.WriteString(from)
	defer p.WriteString(to)
	p.parts(l)
}

// list writes expressions in parentheses.
func (p *printer) list(l []api.Node) {
	p.between("(", l, ")")
}

// enclosed writes an expression, in parentheses if it has to be.
func (p *printer) enclosed(n api.Node, has bool) {
	if has {
		p.WriteString("(")
		defer p.WriteString(")")
	}
	p.expr(n)
}
