package check

import (
	"emend/api"
	"emend/lexer"
	"emend/types"
)

// seen tells whether a declaration's name may be seen.
func (a asker) seen(d api.Decl) bool {
	return lexer.Exported(d.Name) || d.Dir == a.program.Dir(a.doc)
}

// use keeps which field, or method, the name stands for that a node has.
func (a asker) use(n api.Node, d api.Decl) {
	a.members = append(a.members, api.Use{Doc: a.doc, At: n.At, Name: n.Name, Is: true, Decl: d})
	a.stands[place{a.doc, n.At}] = d
}

// selected is the type of the field that a selector, which is not called, tells.
func (a asker) selected(n api.Node) types.Type {
	if a.isImport(n.Kids[0]) {
		a.imported(n, false)
		return types.Type{}
	}
	return a.fields[a.member(n, api.DField)]
}

// isImport tells whether an expression is a name that stands for an import.
func (a asker) isImport(n api.Node) bool {
	u, _ := a.program.Find(a.doc, n.At)
	return n.Kind == api.NIdent && u.Decl.Kind == api.DImport
}

// imported is the function that is selected from an import; the zero declaration, if it has a fault.
func (a asker) imported(n api.Node, called bool) api.Decl {
	u, _ := a.program.Find(a.doc, n.At)
	switch {
	case !u.Is:
		a.tell(n.At, api.ErrBound)
	case !called || u.Decl.Kind != api.DFunc:
		a.tell(n.At, api.ErrType)
	case !a.seen(u.Decl):
		a.tell(n.At, api.ErrHidden)
	default:
		return u.Decl
	}
	return api.Decl{}
}

// member is the one, of a kind, that is selected from a value; the zero declaration, if it has a fault.
func (a asker) member(n api.Node, kind int) api.Decl {
	x := a.value(n.Kids[0])
	d, ok := a.program.Member(x.Pkg, x.Name, n.Name)
	switch {
	case x.Kind == types.None: // That was told.
	case x.Kind != types.Struct:
		a.tell(n.At, api.ErrType)
	case !ok:
		a.tell(n.At, api.ErrBound)
	case !a.seen(d):
		a.tell(n.At, api.ErrHidden)
	case d.Kind != kind:
		a.tell(n.At, api.ErrType)
	default:
		a.use(n, d)
		return d
	}
	return api.Decl{}
}

// callee is what is called; the zero declaration, if it has a fault.
func (a asker) callee(n api.Node) api.Decl {
	if n.Kind == api.NSel {
		if a.isImport(n.Kids[0]) {
			return a.imported(n, true)
		}
		return a.member(n, api.DMethod)
	}
	u, _ := a.program.Find(a.doc, n.At)
	switch {
	case !u.Is:
		a.tell(n.At, api.ErrBound)
	case u.Decl.Kind != api.DFunc:
		a.tell(n.At, api.ErrType)
	default:
		return u.Decl
	}
	return api.Decl{}
}

// call is the type of a call, and whether it has one.
func (a asker) call(n api.Node) (types.Type, bool) {
	s, ok := a.signatures[a.callee(n.Kids[0])]
	args := n.Kids[1:]
	if ok && len(args) != len(s.Params) {
		a.tell(n.At, api.ErrType)
		ok = false
	}
	for i, arg := range args {
		want := types.Type{}
		if i < len(s.Params) {
			want = s.Params[i].Type
		}
		ok = a.fits(arg, want) && ok
	}
	if !ok {
		return types.Type{}, false
	}
	return s.Result, true
}

// literal is the type of a struct's literal.
func (a asker) literal(n api.Node) types.Type {
	x, fault := a.types.Of(a.doc, n.Kids[0])
	if fault.E != api.OK {
		// All that stands behind it has greater faults.
		a.to.tell(fault)
		return types.Type{}
	}
	met := map[string]struct{}{}
	whole := true
	for _, key := range n.Kids[1:] {
		_, twice := met[key.Name]
		met[key.Name] = struct{}{}
		whole = a.fits(key.Kids[0], a.key(x, key, twice)) && whole
	}
	if !whole {
		return types.Type{}
	}
	return x
}

// key is the type of a struct's field that a key names; None, if it has a fault.
func (a asker) key(x types.Type, n api.Node, twice bool) types.Type {
	d, _ := a.program.Member(x.Pkg, x.Name, n.Name)
	switch {
	case twice:
		a.tell(n.At, api.ErrTwice)
	case d.Kind != api.DField:
		a.tell(n.At, api.ErrBound)
	case !a.seen(d):
		a.tell(n.At, api.ErrHidden)
	default:
		a.use(n, d)
		return a.fields[d]
	}
	return types.Type{}
}

// builtin is the type of a builtin's call, and whether it has one.
func (a asker) builtin(n api.Node) (types.Type, bool) {
	ok := len(n.Kids) == 1 || n.Name == "print" && len(n.Kids) > 1
	if !ok {
		a.tell(n.At, api.ErrType)
	}
	for _, arg := range n.Kids {
		switch x := a.value(arg); {
		case x.Kind == types.None:
			ok = false
		case !takes(n.Name, x):
			a.tell(arg.At, api.ErrType)
			ok = false
		}
	}
	if !ok {
		return types.Type{}, false
	}
	return gives(n.Name), true
}

// takes tells whether a builtin's argument may be of a type.
func takes(name string, x types.Type) bool {
	switch name {
	case "int", "float64":
		return isNumber(x)
	case "len", "panic":
		return x.Kind == types.String
	}
	return x.Kind != types.Struct
}

// gives is the type of a builtin's value; None, if it has none.
func gives(name string) (x types.Type) {
	switch name {
	case "int", "len":
		x.Kind = types.Int
	case "float64":
		x.Kind = types.Float
	}
	return x
}
