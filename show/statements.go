package show

import "motley/api"

func isStatement(n api.Node) bool {
	switch n.Op {
	case api.NExpr, api.NIf, api.NWhile, api.NFor, api.NBlock, api.NDefine, api.NPackage, api.NReturn, api.NLeave, api.NPhase:
		return true
	}
	return false
}

// statements writes statements, each beginning on a line of its own.
func (p *printer) statements(l []api.Node) {
	for _, n := range l {
		p.indent()
		p.statement(n)
		p.WriteString("\n")
	}
}

// block writes a block, and stays on the line of its `}`.
func (p *printer) block(n api.Node) {
	p.WriteString("{\n")
	p.depth++
	p.statements(n.L)
	p.depth--
	p.indent()
	p.WriteString("}")
}

func (p *printer) statement(n api.Node) {
	switch n.Op {
	case api.NExpr:
		p.enclosed(n.L[0], opensHash(n.L[0]))
		p.WriteString(";")
	case api.NIf:
		p.branches(n.L)
	case api.NWhile:
		p.label(n.T)
		p.headed("while ", n.L[:1], n.L[1])
	case api.NFor:
		p.label(n.T)
		p.headed(loop(n), n.L[0].L, n.L[1])
	case api.NBlock:
		p.label(n.T)
		p.block(n)
	case api.NDefine:
		p.WriteString("sub " + n.S + " ")
		p.block(n.L[0])
	case api.NPackage:
		p.WriteString("package " + n.S + ";")
	case api.NReturn:
		p.returned(n.L)
	case api.NLeave:
		p.left(n)
	case api.NPhase:
		p.WriteString(n.S + " ")
		p.block(n.L[0])
	}
}

func (p *printer) label(name string) {
	if name != "" {
		p.WriteString(name + ": ")
	}
}

// headed writes what stands before a block, and the block.
func (p *printer) headed(words string, l []api.Node, block api.Node) {
	p.WriteString(words)
	p.list(l)
	p.WriteString(" ")
	p.block(block)
}

// loop returns the words of an NFor before its list.
func loop(n api.Node) string {
	if n.N == 0 {
		return "for "
	}
	return "for my $" + n.S + " "
}

// branches writes conditions and blocks by turns, and perhaps a block at the end.
func (p *printer) branches(l []api.Node) {
	words := "if "
	for ; len(l) > 1; l = l[2:] {
		p.headed(words, l[:1], l[1])
		words = " elsif "
	}
	if len(l) > 0 {
		p.WriteString(" else ")
		p.block(l[0])
	}
}

func (p *printer) returned(l []api.Node) {
	p.WriteString("return")
	defer p.WriteString(";")
	for _, n := range l {
		p.WriteString(" ")
		p.enclosed(n, opensHash(n))
	}
}

// left writes a statement that leaves a loop.
func (p *printer) left(n api.Node) {
	p.WriteString(n.S)
	if n.T != "" {
		p.WriteString(" " + n.T)
	}
	p.WriteString(";")
}
