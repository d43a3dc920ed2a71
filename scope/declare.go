package scope

import "emend/api"

// kindOf is the kind of what a node declares; 0, if it declares nothing.
func kindOf(n api.Node) int {
	switch n.Kind {
	case api.NImport:
		return api.DImport
	case api.NType:
		return api.DType
	case api.NFunc:
		if n.Kids[0].Kind != api.NNone {
			return api.DMethod
		}
		return api.DFunc
	case api.NField:
		return api.DField
	case api.NParam:
		return api.DParam
	case api.NVar, api.NDefine:
		return api.DVar
	case api.NLabel:
		return api.DLabel
	}
	return 0
}

// declared is what a node of a document declares; the zero one, if it declares nothing.
func (m *maker) declared(doc int, n api.Node) api.Decl {
	d := api.Decl{Kind: kindOf(n), Name: n.Name, Doc: doc, At: n.At, Dir: m.dirs[doc]}
	switch d.Kind {
	case 0:
		return api.Decl{}
	case api.DImport:
		d.Dir = n.Name
	}
	return d
}

// lookAtDeclarations gathers what is declared, tells of what is declared twice, and finds what names stand for.
func (m *maker) lookAtDeclarations() {
	for doc, file := range m.files {
		for _, n := range file.Kids {
			m.gather(doc, n)
		}
	}
	// Types and functions are known ahead of their places, too.
	for doc := range m.files {
		m.resolve(doc)
	}
}

// gather declares what stands in a file for its package.
func (m *maker) gather(doc int, n api.Node) {
	d, dir := m.declared(doc, n), m.dirs[doc]
	k := m.packs[dir]
	switch d.Kind {
	case api.DImport:
		m.apart(k.block, d)
		m.imported[dir].put(d)
	case api.DMethod:
		l := k.of(n.Kids[0].Kids[0].Name)
		m.put(l.block, d)
		l.methods = append(l.methods, d)
	case api.DType, api.DFunc:
		m.apart(m.imported[dir], d)
		m.put(k.block, d)
		k.tops = append(k.tops, d)
	}
	if d.Kind == api.DType {
		l := k.of(n.Name)
		for _, kid := range n.Kids {
			field := m.declared(doc, kid)
			m.put(l.block, field)
			l.fields = append(l.fields, field)
		}
	}
}

// of are the members of a type's name, to which some may be put.
func (k *pack) of(typ string) *members {
	if k.members[typ] == nil {
		k.members[typ] = &members{block: inside(nil)}
	}
	return k.members[typ]
}

// resolve goes through a document's nodes, in the order of its text, and keeps which of them declare something, and what
// plain names stand for.
func (m *maker) resolve(doc int) {
	var visit func(n api.Node, in known)
	visit = func(n api.Node, in known) {
		d, below, kids := m.declared(doc, n), in, n.Kids
		if d.Kind != 0 {
			m.nodes[d] = n
		}
		switch n.Kind {
		case api.NFunc:
			// What stands ahead of the function's block does not know its params.
			for _, kid := range kids[:3] {
				visit(kid, in)
			}
			below, kids = in.function(), kids[3].Kids
			for _, param := range paramsOf(n) {
				m.put(below.block, m.declared(doc, param))
			}
		case api.NBlock, api.NFor:
			below = in.further()
		case api.NLabel:
			m.put(in.met, d)
			below = in.under(d)
		}
		for _, kid := range kids {
			visit(kid, below)
		}
		// A variable is known from here on: its own expression does not know it.
		if d.Kind == api.DVar {
			m.put(in.block, d)
		}
		m.use(doc, n, in)
	}
	visit(m.files[doc], known{block: m.imports[doc]})
}

// paramsOf are a function's, the receiver ahead of them, if it has one.
func paramsOf(n api.Node) []api.Node {
	params := n.Kids[1].Kids
	if n.Kids[0].Kind == api.NNone {
		return params
	}
	return append([]api.Node{n.Kids[0]}, params...)
}

// use keeps what the plain name that a node has, if it has one, stands for.
func (m *maker) use(doc int, n api.Node, in known) {
	u := api.Use{Doc: doc, At: n.At, Name: n.Name}
	switch n.Kind {
	case api.NIdent:
		u.Decl, u.Is = in.find(n.Name)
	case api.NTypeName:
		if isBasic(n.Name) {
			return
		}
		u.Decl, u.Is = in.find(n.Name)
	case api.NBreak, api.NContinue:
		if n.Name == "" {
			return
		}
		u.Decl, u.Is = in.labels.find(n.Name)
	case api.NSel, api.NTypeSel:
		dir, ok := in.imported(n.Kids[0])
		if !ok {
			return
		}
		u.Decl, u.Is = m.Top(dir, n.Name)
	default:
		return
	}
	m.names = append(m.names, u)
}

// isBasic tells whether a type's name is that of one that nobody declares.
func isBasic(name string) bool {
	switch name {
	case "int", "bool", "string", "float64":
		return true
	}
	return false
}
