package types

import (
	"cmp"
	"slices"
	"strings"

	"emend/api"
	"emend/scope"
)

// The model goes by the chapter's words one by one: it lists all nodes of types with their faults, holds each two structs
// against one another until no more lies in one, and tells sizes and values by texts that show how types are put together.

type model struct {
	p       *scope.Program
	stands  map[[2]int]api.Decl // what names stand for, by their places
	structs []api.Decl
	funcs   []api.Decl // methods, too
	lies    map[[2]Type]bool
}

// makeModel is the model of a program, and the fault that Make is to tell.
func makeModel(p *scope.Program) (*model, api.Fault) {
	m := &model{p: p, stands: map[[2]int]api.Decl{}}
	for _, u := range p.Names() {
		if u.Is {
			m.stands[[2]int{u.Doc, u.At}] = u.Decl
		}
	}
	for doc := range p.Len() {
		for _, n := range p.File(doc).Kids {
			d := api.Decl{Name: n.Name, Doc: doc, At: n.At, Dir: p.Dir(doc)}
			switch {
			case n.Kind == api.NType:
				d.Kind = api.DType
				m.structs = append(m.structs, d)
			case n.Kind == api.NFunc:
				d.Kind = api.DFunc
				if n.Kids[0].Kind == api.NParam {
					d.Kind = api.DMethod
				}
				m.funcs = append(m.funcs, d)
			}
		}
	}
	m.findLies()
	l := m.faults()
	if len(l) == 0 {
		return m, api.Fault{}
	}
	return m, slices.MinFunc(l, func(a, b api.Fault) int { return cmp.Or(a.Doc-b.Doc, a.At-b.At, int(a.E-b.E)) })
}

// of is what a node stands for, or its fault.
func (m *model) of(doc int, n api.Node) (Type, api.Fault) {
	basics := map[string]int{"int": Int, "bool": Bool, "string": String, "float64": Float}
	var faults []api.Fault
	fault := func(is bool, at int, e api.Errno) {
		if is {
			faults = append(faults, api.Fault{Doc: doc, At: at, E: e})
		}
	}
	d, ok := m.stands[[2]int{doc, n.At}]
	switch {
	case n.Kind == api.NNone:
		return Type{}, api.Fault{}
	case n.Kind == api.NTypeName && basics[n.Name] != 0:
		return Type{Kind: basics[n.Name]}, api.Fault{}
	case n.Kind == api.NTypeName:
		fault(!ok, n.At, api.ErrBound)
		fault(d.Kind != api.DType, n.At, api.ErrType)
	case n.Kind == api.NTypeSel && len(n.Kids) > 0:
		from, known := m.stands[[2]int{doc, n.Kids[0].At}]
		fault(!known, n.Kids[0].At, api.ErrBound)
		fault(from.Kind != api.DImport, n.Kids[0].At, api.ErrType)
		fault(!ok, n.At, api.ErrBound)
		fault(d.Kind != api.DType, n.At, api.ErrType)
		fault(ok && (d.Name[0] < 'A' || d.Name[0] > 'Z'), n.At, api.ErrHidden)
	default:
		fault(true, n.At, api.ErrType)
	}
	if len(faults) > 0 {
		return Type{}, faults[0]
	}
	return Type{Struct, d.Dir, d.Name}, api.Fault{}
}

// own is the struct of a declaration.
func own(d api.Decl) Type { return Type{Struct, d.Dir, d.Name} }

// fields are those of a struct: by the members of its name.
func (m *model) fields(x Type) (l []Member) {
	if !slices.ContainsFunc(m.structs, func(d api.Decl) bool { return own(d) == x }) {
		return nil
	}
	for _, d := range m.p.Members(x.Pkg, x.Name) {
		if d.Kind == api.DField {
			y, _ := m.of(d.Doc, m.p.Node(d).Kids[0])
			l = append(l, Member{d, y})
		}
	}
	return l
}

// findLies finds which structs lie in which, the first of two in the second one.
func (m *model) findLies() {
	m.lies = map[[2]Type]bool{}
	for _, d := range m.structs {
		for _, f := range m.fields(own(d)) {
			if f.Type.Kind == Struct {
				m.lies[[2]Type{f.Type, own(d)}] = true
			}
		}
	}
	for _, by := range m.structs {
		for _, in := range m.structs {
			for _, of := range m.structs {
				if m.lies[[2]Type{own(in), own(by)}] && m.lies[[2]Type{own(by), own(of)}] {
					m.lies[[2]Type{own(in), own(of)}] = true
				}
			}
		}
	}
}

// faults are all of a program's types.
func (m *model) faults() (l []api.Fault) {
	for doc := range m.p.Len() {
		var visit func(n api.Node)
		visit = func(n api.Node) {
			if n.Kind == api.NField || n.Kind == api.NParam {
				_, f := m.of(doc, n.Kids[0])
				l = append(l, f)
			}
			if n.Kind == api.NFunc {
				_, f := m.of(doc, n.Kids[2])
				l = append(l, f)
			}
			for _, kid := range n.Kids {
				visit(kid)
			}
		}
		visit(m.p.File(doc))
	}
	for _, d := range m.structs {
		switch x := own(d); {
		case m.lies[[2]Type{x, x}]:
			l = append(l, api.Fault{Doc: d.Doc, At: d.At, E: api.ErrCycle})
		case m.isWhole(x) && strings.Count(m.shape(x), ",") > 256:
			l = append(l, api.Fault{Doc: d.Doc, At: d.At, E: api.ErrLong})
		}
	}
	return slices.DeleteFunc(l, func(f api.Fault) bool { return f.E == api.OK })
}

// isWhole tells whether no field of a struct, or of what lies in it, has a fault, and none of these lies in itself.
func (m *model) isWhole(x Type) bool {
	for _, d := range m.structs {
		y := own(d)
		if y != x && !m.lies[[2]Type{y, x}] {
			continue
		}
		for _, f := range m.fields(y) {
			if f.Type == (Type{}) {
				return false
			}
		}
		if m.lies[[2]Type{y, y}] {
			return false
		}
	}
	return true
}

// shape shows a type: as many commas as its size, a letter for each kind, its fields in braces; nothing, if there is none.
func (m *model) shape(x Type) string {
	for i, s := range []string{"n", "i,", "b,", "s,", "f,"} {
		if x == (Type{Kind: i}) {
			return s
		}
	}
	for _, d := range m.structs {
		if own(d) != x {
			continue
		}
		l := m.fields(x)
		if len(l) == 0 {
			return "{,}"
		}
		s := "{"
		for _, f := range l {
			s += m.shape(f.Type)
		}
		return s + "}"
	}
	return ""
}

// shown shows a value as shape shows its type.
func shown(v api.Value) string {
	junk := v.Int != 0 && v.Kind != api.VInt || v.Bool && v.Kind != api.VBool || v.Str != "" && v.Kind != api.VString ||
		v.Float != 0 && v.Kind != api.VFloat || len(v.Fields) > 0 && v.Kind != api.VStruct
	switch {
	case junk || len(v.Str) > 4096:
		return "none"
	case v.Kind == api.VStruct && len(v.Fields) == 0:
		return "{,}"
	case v.Kind == api.VStruct:
		s := "{"
		for _, field := range v.Fields {
			s += shown(field)
		}
		return s + "}"
	case v.Kind >= api.VNone && v.Kind <= api.VFloat:
		return []string{"n", "i,", "b,", "s,", "f,"}[v.Kind]
	}
	return "none"
}

// isZero tells whether a value is the zero one of its kind.
func isZero(v api.Value) bool {
	return v.Int == 0 && !v.Bool && v.Str == "" && v.Float == 0 && !slices.ContainsFunc(v.Fields, func(field api.Value) bool { return !isZero(field) })
}

// signature is that of a function or a method.
func (m *model) signature(d api.Decl) (s Signature) {
	n := m.p.Node(d)
	s.Decl = d
	if d.Kind == api.DMethod {
		s.Own, _ = m.of(d.Doc, n.Kids[0].Kids[0])
	}
	for _, param := range n.Kids[1].Kids {
		x, _ := m.of(d.Doc, param.Kids[0])
		s.Params = append(s.Params, Member{api.Decl{Kind: api.DParam, Name: param.Name, Doc: d.Doc, At: param.At, Dir: d.Dir}, x})
	}
	s.Result, _ = m.of(d.Doc, n.Kids[2])
	return s
}
