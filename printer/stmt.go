package printer

import "emend/api"

// stmt writes a statement.
func (p *page) stmt(n api.Node) {
	switch n.Kind {
	case api.NBlock:
		p.lines(n.Kids, p.stmt)
	case api.NVar:
		p.put("var ", n.Name)
		p.more(" ", n.Kids[0], p.typ)
		p.more(" = ", n.Kids[1], p.expr)
	case api.NDefine:
		p.put(n.Name, " := ")
		p.expr(n.Kids[0])
	case api.NAssign:
		p.expr(n.Kids[0])
		p.put(" = ")
		p.expr(n.Kids[1])
	case api.NIf:
		p.condition(n)
	case api.NFor:
		p.loop(n)
	case api.NLabel:
		p.put(n.Name, ": ")
		p.loop(n.Kids[0])
	case api.NBreak:
		p.jump("break", n.Name)
	case api.NContinue:
		p.jump("continue", n.Name)
	case api.NReturn:
		p.put("return")
		for _, e := range n.Kids {
			p.put(" ")
			p.expr(e)
		}
	case api.NCallStmt:
		p.expr(n.Kids[0])
	}
}

// condition writes an if, with all that is behind its else.
func (p *page) condition(n api.Node) {
	p.put("if ")
	p.expr(n.Kids[0])
	p.put(" ")
	p.stmt(n.Kids[1])
	p.more(" else ", n.Kids[2], p.stmt)
}

// loop writes a for: with semicolons, if a statement is ahead of it or behind each round.
func (p *page) loop(n api.Node) {
	first, e, last, block := n.Kids[0], n.Kids[1], n.Kids[2], n.Kids[3]
	p.put("for ")
	switch {
	case isThere(first) || isThere(last):
		p.more("", first, p.stmt)
		p.put(";")
		p.more(" ", e, p.expr)
		p.put(";")
		p.more(" ", last, p.stmt)
		p.put(" ")
	case isThere(e):
		p.expr(e)
		p.put(" ")
	}
	p.stmt(block)
}

// jump writes a break or a continue, with its label, if it has one.
func (p *page) jump(word, label string) {
	p.put(word)
	if label != "" {
		p.put(" ", label)
	}
}
