package printer

import "emend/api"

// expr writes an expression. Those that are but a name or a literal are their Name.
func (p *page) expr(n api.Node) {
	switch n.Kind {
	case api.NSel:
		p.expr(n.Kids[0])
		p.put(".", n.Name)
	case api.NCall:
		p.expr(n.Kids[0])
		p.row("(", ")", n.Kids[1:], p.expr)
	case api.NBuiltin:
		p.put(n.Name)
		p.row("(", ")", n.Kids, p.expr)
	case api.NLit:
		p.typ(n.Kids[0])
		p.row("{", "}", n.Kids[1:], p.keyed)
	case api.NUnary:
		p.put(n.Name)
		p.expr(n.Kids[0])
	case api.NBinary:
		p.expr(n.Kids[0])
		p.put(" ", n.Name, " ")
		p.expr(n.Kids[1])
	case api.NParen:
		p.put("(")
		p.expr(n.Kids[0])
		p.put(")")
	default:
		p.put(n.Name)
	}
}

// keyed writes a field's name, and the expression that it gets.
func (p *page) keyed(n api.Node) {
	p.put(n.Name, ": ")
	p.expr(n.Kids[0])
}
