package printer

import "emend/api"

// file writes all of a program's file.
func (p *page) file(n api.Node) {
	p.put("package ", n.Name, "\n")
	for _, kid := range n.Kids {
		p.decl(kid)
		p.put("\n")
	}
}

// decl writes a package that is imported, a type or a function.
func (p *page) decl(n api.Node) {
	switch n.Kind {
	case api.NImport:
		p.put(`import "`, n.Name, `"`)
	case api.NType:
		p.put("type ", n.Name, " struct ")
		p.lines(n.Kids, p.nameAndType)
	case api.NFunc:
		p.function(n)
	}
}

// function writes a function, or a method, that is declared.
func (p *page) function(n api.Node) {
	receiver, params, result, block := n.Kids[0], n.Kids[1], n.Kids[2], n.Kids[3]
	p.put("func ")
	if isThere(receiver) {
		p.put("(")
		p.nameAndType(receiver)
		p.put(") ")
	}
	p.put(n.Name)
	p.row("(", ")", params.Kids, p.nameAndType)
	p.more(" ", result, p.typ)
	p.put(" ")
	p.stmt(block)
}

// nameAndType writes a field or a param.
func (p *page) nameAndType(n api.Node) {
	p.put(n.Name, " ")
	p.typ(n.Kids[0])
}

// typ writes what a type is called.
func (p *page) typ(n api.Node) {
	if n.Kind == api.NTypeSel {
		p.put(n.Kids[0].Name, ".")
	}
	p.put(n.Name)
}
