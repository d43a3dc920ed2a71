package check

import (
	"cmp"
	"slices"
	"strings"

	"emend/api"
	"emend/scope"
	"emend/types"
)

// The model goes by the chapter's words one by one: it lists all nodes, each with those around it, and tells of each what its
// type is, and which faults it has, asking again whatever it needs.

// spot is a node, and the spot right around it, if there is one.
type spot struct {
	*api.Node
	doc int
	up  *spot
}

// kid is a spot's child.
func (s *spot) kid(i int) *spot { return &spot{&s.Kids[i], s.doc, s} }

// kids are a spot's children from a number on.
func (s *spot) kids(from int) (l []*spot) {
	for i := from; i < len(s.Kids); i++ {
		l = append(l, s.kid(i))
	}
	return l
}

// parent is the node right around a spot.
func (s *spot) parent() *api.Node {
	if s.up == nil {
		return &api.Node{}
	}
	return s.up.Node
}

// isFirstOf tells whether a spot is the first child of a node of a kind.
func (s *spot) isFirstOf(kind int) bool {
	up := s.parent()
	return up.Kind == kind && &up.Kids[0] == s.Node
}

// innermost is the node of a kind that is around a spot, if there is one; of any name, if none is told.
func (s *spot) innermost(kind int, name string) *api.Node {
	for s = s.up; s != nil; s = s.up {
		if s.Kind == kind && (name == "" || s.Name == name) {
			return s.Node
		}
	}
	return nil
}

// isExpr tells whether a spot is an expression: what a type's name is made of is none.
func (s *spot) isExpr() bool {
	return s.Kind >= api.NInt && s.Kind <= api.NParen && s.Kind != api.NKeyed && s.parent().Kind != api.NTypeSel
}

type model struct {
	p     *scope.Program
	ts    *types.Types
	spots []*spot
	names map[[2]int]api.Decl       // plain names, by place
	decls map[[2]int]api.Decl       // declarations, by place
	vars  map[api.Decl]types.Type   // variables and params, that have a type
	nodes map[api.Decl]api.Node     // functions and methods
	owns  map[types.Type][]api.Decl // members
}

// makeModel is the model of documents, or the fault that Make is to tell.
func makeModel(docs []api.Doc) (*model, api.Fault) {
	p, f := scope.Make(docs)
	if f.E != api.OK {
		return nil, f
	}
	ts, f := types.Make(p)
	if f.E != api.OK {
		return nil, f
	}
	m := &model{p, ts, nil, map[[2]int]api.Decl{}, map[[2]int]api.Decl{}, map[api.Decl]types.Type{}, map[api.Decl]api.Node{}, map[types.Type][]api.Decl{}}
	for _, u := range p.Names() {
		if u.Is {
			m.names[[2]int{u.Doc, u.At}] = u.Decl
		}
	}
	for doc := range p.Len() {
		file := p.File(doc)
		m.list(&spot{Node: &file, doc: doc})
	}
	for _, s := range m.spots {
		if x, ok := m.variable(s); ok {
			m.vars[m.decls[[2]int{s.doc, s.At}]] = x
		}
	}
	var l []api.Fault
	for _, s := range m.spots {
		if s.Kind == api.NFunc || s.innermost(api.NFunc, "") != nil {
			for _, f := range append(m.faults(s), m.noValues(s)...) {
				f.Doc = s.doc
				l = append(l, f)
			}
		}
	}
	if len(l) == 0 {
		return m, api.Fault{}
	}
	return nil, slices.MinFunc(l, func(a, b api.Fault) int { return cmp.Or(a.Doc-b.Doc, a.At-b.At, int(a.E-b.E)) })
}

// list lists a spot, and all that is below it.
func (m *model) list(s *spot) {
	if s.Kind == api.NNone {
		return
	}
	m.spots = append(m.spots, s)
	kinds := map[int]int{api.NImport: api.DImport, api.NType: api.DType, api.NFunc: api.DFunc, api.NField: api.DField,
		api.NParam: api.DParam, api.NVar: api.DVar, api.NDefine: api.DVar, api.NLabel: api.DLabel}
	if kinds[s.Kind] != 0 {
		d := api.Decl{Kind: kinds[s.Kind], Name: s.Name, Doc: s.doc, At: s.At, Dir: m.p.Dir(s.doc)}
		own := ""
		switch {
		case s.Kind == api.NImport:
			d.Dir = s.Name
		case s.Kind == api.NField:
			own = s.parent().Name
		case s.Kind == api.NFunc && s.Kids[0].Kind == api.NParam:
			d.Kind, own = api.DMethod, s.Kids[0].Kids[0].Name
		}
		m.decls[[2]int{s.doc, s.At}], m.nodes[d] = d, *s.Node
		if own != "" {
			x := types.Type{Kind: types.Struct, Pkg: d.Dir, Name: own}
			m.owns[x] = append(m.owns[x], d)
		}
	}
	for _, kid := range s.kids(0) {
		m.list(kid)
	}
}

// variable is the type of the variable, or the param, that a spot declares, and whether it has one.
func (m *model) variable(s *spot) (types.Type, bool) {
	of := func(n api.Node) (types.Type, bool) {
		x, f := m.ts.Of(s.doc, n)
		return x, f.E == api.OK
	}
	switch {
	case s.Kind == api.NParam, s.Kind == api.NVar && s.Kids[0].Kind != api.NNone:
		return of(s.Kids[0])
	case s.Kind == api.NVar:
		return m.value(s.kid(1))
	case s.Kind == api.NDefine:
		return m.value(s.kid(0))
	}
	return types.Type{}, false
}

// value is the type of an expression, if that is a value.
func (m *model) value(s *spot) (types.Type, bool) {
	x, ok := m.typ(s)
	return x, ok && x != types.Type{}
}

// signature is a function's or a method's: its params, and its result.
func (m *model) signature(d api.Decl) (params []types.Type, result types.Type) {
	n := m.nodes[d]
	for _, param := range n.Kids[1].Kids {
		x, _ := m.ts.Of(d.Doc, param.Kids[0])
		params = append(params, x)
	}
	result, _ = m.ts.Of(d.Doc, n.Kids[2])
	return params, result
}

// seen tells whether a declaration's name may be seen in a document.
func (m *model) seen(doc int, d api.Decl) bool {
	return d.Name[0] >= 'A' && d.Name[0] <= 'Z' || m.p.Dir(d.Doc) == m.p.Dir(doc)
}

// isImport tells whether a spot is an NIdent that stands for an import.
func (m *model) isImport(s *spot) bool {
	return s.Kind == api.NIdent && m.names[[2]int{s.doc, s.At}].Kind == api.DImport
}

// member is the field, or the method, of a struct that has a name.
func (m *model) member(x types.Type, name string) (d api.Decl, ok bool) {
	for _, d := range m.owns[x] {
		if d.Name == name {
			return d, true
		}
	}
	return d, false
}

// stands is the member for which a spot's name stands, if it is an NSel, or an NKeyed, of one.
func (m *model) stands(s *spot) (d api.Decl, ok bool) {
	x := types.Type{}
	switch {
	case s.Kind == api.NSel && !m.isImport(s.kid(0)):
		x, _ = m.value(s.kid(0))
	case s.Kind == api.NKeyed:
		x, _ = m.ts.Of(s.doc, s.parent().Kids[0])
	}
	return m.member(x, s.Name)
}

// called is the function, or the method, that an NCall calls, if it calls one.
func (m *model) called(s *spot) (d api.Decl, ok bool) {
	by := s.kid(0)
	d = m.names[[2]int{s.doc, by.At}]
	switch {
	case by.Kind == api.NIdent:
		return d, d.Kind == api.DFunc
	case m.isImport(by.kid(0)):
		return d, d.Kind == api.DFunc && m.seen(s.doc, d)
	}
	d, _ = m.stands(by)
	return d, d.Kind == api.DMethod && m.seen(s.doc, d)
}

// typ is the type of an expression, and whether it has one: by the table of the chapter.
func (m *model) typ(s *spot) (x types.Type, ok bool) {
	basic := map[int]int{api.NInt: types.Int, api.NFloat: types.Float, api.NString: types.String, api.NBool: types.Bool}
	switch s.Kind {
	case api.NInt, api.NFloat, api.NString, api.NBool:
		return types.Type{Kind: basic[s.Kind]}, true
	case api.NIdent:
		x, ok = m.vars[m.names[[2]int{s.doc, s.At}]]
	case api.NParen:
		return m.value(s.kid(0))
	case api.NUnary:
		x, ok = m.value(s.kid(0))
		ok = ok && (s.Name == "-" && strings.Contains("int float64", x.Text()) || s.Name == "!" && x.Text() == "bool")
	case api.NBinary:
		return m.binary(s)
	case api.NSel:
		d, is := m.stands(s)
		if is && d.Kind == api.DField && m.seen(s.doc, d) {
			x, _ = m.ts.Of(d.Doc, m.nodes[d].Kids[0])
			return x, true
		}
	case api.NCall:
		d, is := m.called(s)
		if !is {
			return x, false
		}
		params, result := m.signature(d)
		args, ok := m.values(s.kids(1))
		return when(ok && slices.Equal(args, params), result)
	case api.NLit:
		x, f := m.ts.Of(s.doc, s.Kids[0])
		ok := f.E == api.OK
		for _, key := range s.kids(1) {
			_, is := m.value(key.kid(0))
			ok = ok && is && len(m.faults(key)) == 0
		}
		return when(ok, x)
	case api.NBuiltin:
		return m.builtin(s)
	}
	return when(ok, x)
}

// when is a type, if there is one.
func when(ok bool, x types.Type) (types.Type, bool) {
	if !ok {
		return types.Type{}, false
	}
	return x, true
}

// values are the types of expressions, if all of these are values.
func (m *model) values(l []*spot) (all []types.Type, ok bool) {
	for _, s := range l {
		x, ok := m.value(s)
		if !ok {
			return nil, false
		}
		all = append(all, x)
	}
	return all, true
}

// binary is the type of an NBinary.
func (m *model) binary(s *spot) (types.Type, bool) {
	l, ok := m.values(s.kids(0))
	if !ok || l[0] != l[1] {
		return types.Type{}, false
	}
	for _, row := range []struct {
		ops, of string
		truth   bool
	}{
		{"+", "int float64 string", false}, {"- * /", "int float64", false}, {"%", "int", false}, {"&& ||", "bool", true},
		{"< <= > >=", "int float64 string", true},
	} {
		if slices.Contains(strings.Fields(row.ops), s.Name) && slices.Contains(strings.Fields(row.of), l[0].Text()) {
			if row.truth {
				return types.Type{Kind: types.Bool}, true
			}
			return l[0], true
		}
	}
	return when(s.Name == "==" || s.Name == "!=", types.Type{Kind: types.Bool})
}

// builtin is the type of an NBuiltin.
func (m *model) builtin(s *spot) (types.Type, bool) {
	l, ok := m.values(s.kids(0))
	return when(ok && m.countFits(s) && len(m.badArgs(s)) == 0 && len(l) == len(s.Kids), map[string]types.Type{
		"int": {Kind: types.Int}, "float64": {Kind: types.Float}, "len": {Kind: types.Int},
	}[s.Name])
}

// countFits tells whether an NBuiltin has as many arguments as it may have.
func (m *model) countFits(s *spot) bool {
	return len(s.Kids) == 1 || s.Name == "print" && len(s.Kids) > 0
}

// badArgs are the values among an NBuiltin's arguments that are of a type which it does not take.
func (m *model) badArgs(s *spot) (l []*spot) {
	takes := map[string]string{"int": "int float64", "float64": "int float64", "len": "string", "panic": "string", "print": "int bool string float64"}
	for _, arg := range s.kids(0) {
		if x, ok := m.value(arg); ok && !slices.Contains(strings.Fields(takes[s.Name]), x.Text()) {
			l = append(l, arg)
		}
	}
	return l
}
