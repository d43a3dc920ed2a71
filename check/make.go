package check

import (
	"emend/api"
	"emend/scope"
	"emend/types"
)

// maker makes a program's info.
type maker struct {
	*Info
	least      least
	fields     map[api.Decl]types.Type
	signatures map[api.Decl]types.Signature // of functions and methods
	locals     map[api.Decl]api.Node        // variables and params
}

func newMaker(p *scope.Program, ts *types.Types) *maker {
	return &maker{
		Info:       &Info{program: p, types: ts, exprs: map[span]answer{}, stands: map[place]api.Decl{}},
		fields:     map[api.Decl]types.Type{},
		signatures: map[api.Decl]types.Signature{},
		locals:     map[api.Decl]api.Node{},
	}
}

// declares are the kinds of what nodes declare, by the nodes' kinds.
var declares = [api.NParen + 1]int{
	api.NImport: api.DImport,
	api.NType:   api.DType,
	api.NFunc:   api.DFunc,
	api.NField:  api.DField,
	api.NParam:  api.DParam,
	api.NVar:    api.DVar,
	api.NDefine: api.DVar,
	api.NLabel:  api.DLabel,
}

// declared is what a node of a document declares; the zero one, if it declares nothing.
func (m *maker) declared(doc int, n api.Node) api.Decl {
	kind, dir := declares[n.Kind], m.program.Dir(doc)
	switch {
	case kind == 0:
		return api.Decl{}
	case kind == api.DImport:
		dir = n.Name
	case kind == api.DFunc && n.Kids[0].Kind != api.NNone:
		kind = api.DMethod
	}
	return api.Decl{Kind: kind, Name: n.Name, Doc: doc, At: n.At, Dir: dir}
}

// gather keeps what a node of a document, and all below it, declare.
func (m *maker) gather(doc int, n api.Node) {
	d := m.declared(doc, n)
	if d.Kind != 0 {
		m.stands[place{doc, n.At}] = d
	}
	switch d.Kind {
	case api.DType:
		for _, f := range m.types.Fields(types.Type{Kind: types.Struct, Pkg: d.Dir, Name: d.Name}) {
			m.fields[f.Decl] = f.Type
		}
	case api.DFunc:
		m.signatures[d], _ = m.types.Func(d.Dir, d.Name)
	case api.DMethod:
		own, _ := m.types.Of(doc, n.Kids[0].Kids[0])
		m.signatures[d], _ = m.types.Method(own, d.Name)
	case api.DParam, api.DVar:
		m.locals[d] = n
	}
	for _, kid := range n.Kids {
		m.gather(doc, kid)
	}
}

// lookAtBodies finds the types of all expressions, what members stand for, and the faults of functions.
func (m *maker) lookAtBodies() {
	var files []api.Node
	for doc := range m.program.Len() {
		files = append(files, m.program.File(doc))
		m.gather(doc, files[doc])
	}
	// A function may be called, and a field be told, ahead of its place, too.
	for doc, file := range files {
		for _, n := range file.Kids {
			if n.Kind == api.NFunc {
				m.lookAtFunction(doc, n)
			}
		}
	}
}

// lookAtFunction looks at a function's body.
func (m *maker) lookAtFunction(doc int, n api.Node) {
	result, block := m.signatures[m.declared(doc, n)].Result, n.Kids[3]
	a := asker{maker: m, doc: doc, to: &m.least, result: result}
	if ends := a.stmt(block); !ends && result.Kind != types.None {
		a.tell(block.To-1, api.ErrFlow)
	}
}
