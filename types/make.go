package types

import (
	"cmp"
	"math"

	"emend/api"
	"emend/scope"
)

// maker makes the types of a program.
type maker struct {
	*Types
	structs []api.Decl // by place
	least   api.Fault  // OK, as long as none was told
}

func newMaker(p *scope.Program) *maker {
	return &maker{Types: &Types{
		// A copy: whoever handed the program in may put another one in its place.
		program:    *p,
		fields:     map[Type][]Member{},
		sizes:      map[Type]int{{}: 0, {Kind: Int}: 1, {Kind: Bool}: 1, {Kind: String}: 1, {Kind: Float}: 1},
		signatures: map[api.Decl]Signature{},
	}}
}

// tell tells of a fault, if it is one. The least one is kept.
func (m *maker) tell(f api.Fault) {
	l := m.least
	ahead := cmp.Or(cmp.Compare(f.Doc, l.Doc), cmp.Compare(f.At, l.At), cmp.Compare(f.E, l.E)) < 0
	if f.E != api.OK && (l.E == api.OK || ahead) {
		m.least = f
	}
}

// typeOf is what a node stands for; None, if it has a fault.
func (m *maker) typeOf(doc int, n api.Node) Type {
	x, fault := m.Of(doc, n)
	m.tell(fault)
	return x
}

// declared is what a node of a document declares.
func (m *maker) declared(doc, kind int, n api.Node) api.Decl {
	return api.Decl{Kind: kind, Name: n.Name, Doc: doc, At: n.At, Dir: m.program.Dir(doc)}
}

// members are the fields, or the params, that nodes declare.
func (m *maker) members(doc, kind int, nodes []api.Node) (l []Member) {
	for _, n := range nodes {
		l = append(l, Member{Decl: m.declared(doc, kind, n), Type: m.typeOf(doc, n.Kids[0])})
	}
	return l
}

// gather takes fields and signatures out of all documents.
func (m *maker) gather() {
	for doc := range m.program.Len() {
		for _, n := range m.program.File(doc).Kids {
			switch n.Kind {
			case api.NType:
				d := m.declared(doc, api.DType, n)
				m.structs = append(m.structs, d)
				m.fields[structOf(d)] = m.members(doc, api.DField, n.Kids)
			case api.NFunc:
				s := m.signatureOf(doc, n)
				m.signatures[s.Decl] = s
			}
		}
	}
}

// signatureOf is the signature of a function's, or a method's, node.
func (m *maker) signatureOf(doc int, n api.Node) Signature {
	s := Signature{
		Decl:   m.declared(doc, api.DFunc, n),
		Params: m.members(doc, api.DParam, n.Kids[1].Kids),
		Result: m.typeOf(doc, n.Kids[2]),
	}
	if receiver := n.Kids[0]; receiver.Kind != api.NNone {
		s.Decl.Kind = api.DMethod
		s.Own = m.typeOf(doc, receiver.Kids[0])
	}
	return s
}

// lookAtStructs tells of structs that lie in themselves, or are too great.
func (m *maker) lookAtStructs() {
	m.measure()
	for _, d := range m.structs {
		if size, ok := m.sizes[structOf(d)]; !ok {
			m.tell(api.Fault{Doc: d.Doc, At: d.At, E: api.ErrCycle})
		} else if size > MostSize {
			m.tell(api.Fault{Doc: d.Doc, At: d.At, E: api.ErrLong})
		}
	}
}

// measure finds the sizes of all structs but those that lie in themselves. Each gets its own once all that lies in it has
// been gone through, so that each is gone through once, however many lie in one another.
func (m *maker) measure() {
	met := map[Type]int{} // by turns: which struct was come to when
	var open []Type       // those that may yet turn out to lie in one that was met ahead of them
	// visit tells the turn of the first one that was met: of the struct, and of the open ones that lie in it.
	var visit func(x Type) int
	visit = func(x Type) int {
		turn, from, itself := len(met), len(open), false
		met[x], open = turn, append(open, x)
		first := turn
		for _, f := range m.fields[x] {
			if f.Type.Kind != Struct {
				continue
			}
			itself = itself || f.Type == x
			when, ok := met[f.Type]
			if !ok {
				when = visit(f.Type)
			}
			first = min(first, when)
		}
		if first < turn {
			return first
		}
		if !itself && len(open) == from+1 {
			m.sizes[x] = m.sum(m.fields[x])
		}
		for _, y := range open[from:] {
			met[y] = math.MaxInt // behind all turns, as it is open no more
		}
		open = open[:from]
		return turn
	}
	for _, d := range m.structs {
		if _, ok := met[structOf(d)]; !ok {
			visit(structOf(d))
		}
	}
}

// sum is the size of a struct of some fields, but at most one more than the greatest; 0, if one of them has none: a fault
// stands in it, or it lies in itself.
func (m *maker) sum(fields []Member) int {
	all := 0
	for _, f := range fields {
		size := m.sizes[f.Type]
		if size == 0 {
			return 0
		}
		all = min(all+size, MostSize+1)
	}
	return max(all, 1)
}
