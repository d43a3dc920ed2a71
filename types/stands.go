package types

import (
	"emend/api"
	"emend/lexer"
)

// basic is the kind of a type that nobody declares, by its name; None, if it is another one's.
func basic(name string) int {
	for kind := Int; kind <= Float; kind++ {
		if name == (Type{Kind: kind}).Text() {
			return kind
		}
	}
	return None
}

// structOf is the struct that a type's declaration declares.
func structOf(d api.Decl) Type { return Type{Kind: Struct, Pkg: d.Dir, Name: d.Name} }

// stands is the declaration, of a kind, for which the name at a place stands.
func (t *Types) stands(doc, at, kind int) (api.Decl, api.Fault) {
	u, _ := t.program.Find(doc, at)
	switch {
	case !u.Is:
		return api.Decl{}, api.Fault{Doc: doc, At: at, E: api.ErrBound}
	case u.Decl.Kind != kind:
		return api.Decl{}, api.Fault{Doc: doc, At: at, E: api.ErrType}
	}
	return u.Decl, api.Fault{}
}

// named is the struct for whose type the name at a place stands.
func (t *Types) named(doc, at int) (Type, api.Fault) {
	d, fault := t.stands(doc, at, api.DType)
	if fault.E != api.OK {
		return Type{}, fault
	}
	return structOf(d), api.Fault{}
}

// selected is the struct that is selected from an import.
func (t *Types) selected(doc int, n api.Node) (Type, api.Fault) {
	if _, fault := t.stands(doc, n.Kids[0].At, api.DImport); fault.E != api.OK {
		return Type{}, fault
	}
	x, fault := t.named(doc, n.At)
	if fault.E == api.OK && !lexer.Exported(x.Name) {
		return Type{}, api.Fault{Doc: doc, At: n.At, E: api.ErrHidden}
	}
	return x, fault
}
