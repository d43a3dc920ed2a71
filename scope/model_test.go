package scope

import (
	"cmp"
	"regexp"
	"slices"

	"emend/api"
	"emend/lexer"
	"emend/parser"
)

// The model goes by the chapter's words one by one: it lists all nodes, each with those around it, holds all declarations
// against one another, and looks for what a name stands for in the list of all of them.

// spot is a node, and those around it, the outermost first.
type spot struct {
	api.Node
	doc    int
	around []api.Node
}

// isIn tells how many nodes of a kind are around a spot.
func (s spot) isIn(kind int) (n int) {
	for _, m := range s.around {
		if m.Kind == kind {
			n++
		}
	}
	return n
}

// innermost is the node of one of some kinds that is around a spot.
func (s spot) innermost(kinds ...int) api.Node {
	for _, n := range slices.Backward(s.around) {
		if slices.Contains(kinds, n.Kind) {
			return n
		}
	}
	return api.Node{}
}

// declared is a declaration, and what the chapter says of it.
type declared struct {
	api.Decl
	spot
	typ      string   // of members: their type's name
	block    api.Node // of variables and params: where they stand
	from, to int      // of variables and params: where they are known
}

type model struct {
	docs  []api.Doc
	dirs  []string
	files []api.Node
	spots []spot
	decls []declared
	uses  []api.Use
}

var uriForm = regexp.MustCompile(`^file:///([A-Za-z_][A-Za-z0-9_]{0,39})/([A-Za-z_][A-Za-z0-9_]{0,39})\.go$`)

// makeModel is the model of documents, or the fault that Make is to tell.
func makeModel(docs []api.Doc) (*model, api.Fault) {
	m := &model{docs: docs}
	for i, doc := range docs {
		names := uriForm.FindStringSubmatch(doc.URI)
		if names == nil || names[1] == "_" || names[2] == "_" || lexer.Reserved(names[1]) || i > 0 && doc.URI <= docs[i-1].URI {
			return nil, api.Fault{E: api.ErrArg}
		}
		m.dirs = append(m.dirs, names[1])
	}
	for _, phase := range []func() []api.Fault{m.parseFaults, m.importFaults, m.declarationFaults} {
		if l := phase(); len(l) > 0 {
			return nil, slices.MinFunc(l, func(a, b api.Fault) int {
				return cmp.Or(a.Doc-b.Doc, a.At-b.At, int(a.E-b.E))
			})
		}
	}
	m.findUses()
	return m, api.Fault{}
}

func (m *model) parseFaults() (l []api.Fault) {
	for i, doc := range m.docs {
		n, place, e := parser.Parse(doc.Text)
		if e != api.OK {
			l = append(l, api.Fault{Doc: i, At: place, E: e})
			continue
		}
		m.files = append(m.files, n)
		m.list(i, n, nil)
	}
	return l
}

// list lists a node, and all that is below it.
func (m *model) list(doc int, n api.Node, around []api.Node) {
	if n.Kind == api.NNone {
		return
	}
	s := spot{n, doc, slices.Clone(around)}
	m.spots = append(m.spots, s)
	m.decls = append(m.decls, m.declares(s)...)
	for _, kid := range n.Kids {
		m.list(doc, kid, append(s.around, n))
	}
}

// declares is what a node declares, if it does.
func (m *model) declares(s spot) []declared {
	kinds := map[int]int{api.NImport: api.DImport, api.NType: api.DType, api.NFunc: api.DFunc, api.NField: api.DField,
		api.NParam: api.DParam, api.NVar: api.DVar, api.NDefine: api.DVar, api.NLabel: api.DLabel}
	if kinds[s.Kind] == 0 {
		return nil
	}
	d := declared{spot: s, Decl: api.Decl{Kind: kinds[s.Kind], Name: s.Name, Doc: s.doc, At: s.At, Dir: m.dirs[s.doc]}}
	switch {
	case s.Kind == api.NImport:
		d.Dir = s.Name
	case s.Kind == api.NFunc && s.Kids[0].Kind == api.NParam:
		d.Decl.Kind, d.typ = api.DMethod, s.Kids[0].Kids[0].Name
	case s.Kind == api.NField:
		d.typ = s.innermost(api.NType).Name
	case s.Kind == api.NParam:
		d.block = s.innermost(api.NFunc).Kids[3]
		d.from, d.to = d.block.From, d.block.To
	case s.Kind == api.NVar || s.Kind == api.NDefine:
		d.block = s.innermost(api.NBlock, api.NFor)
		d.from, d.to = s.To, d.block.To
	}
	return []declared{d}
}

func (m *model) importFaults() (l []api.Fault) {
	leads := m.leads()
	for i, file := range m.files {
		if file.Name != m.dirs[i] {
			l = append(l, api.Fault{Doc: i, At: file.At, E: api.ErrName})
		}
	}
	for i, d := range m.decls {
		if d.Decl.Kind != api.DImport {
			continue
		}
		for _, other := range m.decls[:i] {
			if other.Decl.Kind == api.DImport && other.Doc == d.Doc && other.Decl.Name == d.Decl.Name {
				l = append(l, api.Fault{Doc: d.Doc, At: d.Decl.At, E: api.ErrTwice})
			}
		}
		own := m.dirs[d.Doc]
		if !slices.Contains(m.dirs, d.Dir) {
			l = append(l, api.Fault{Doc: d.Doc, At: d.Decl.At, E: api.ErrBound})
		}
		if d.Dir == own || leads[[2]string{d.Dir, own}] {
			l = append(l, api.Fault{Doc: d.Doc, At: d.Decl.At, E: api.ErrCycle})
		}
	}
	return l
}

// leads tells of two directories whether the first one leads to the second one by imports.
func (m *model) leads() map[[2]string]bool {
	leads := map[[2]string]bool{}
	for _, d := range m.decls {
		if d.Decl.Kind == api.DImport {
			leads[[2]string{m.dirs[d.Doc], d.Dir}] = true
		}
	}
	for _, by := range m.dirs {
		for _, from := range m.dirs {
			for _, to := range m.dirs {
				if leads[[2]string{from, by}] && leads[[2]string{by, to}] {
					leads[[2]string{from, to}] = true
				}
			}
		}
	}
	return leads
}

// isTop and isMember tell of what sort a declaration is.
func (d declared) isTop() bool    { return d.Decl.Kind == api.DType || d.Decl.Kind == api.DFunc }
func (d declared) isMember() bool { return d.Decl.Kind == api.DField || d.Decl.Kind == api.DMethod }

// clash tells whether two declarations may not have the same name.
func (m *model) clash(a, b declared) bool {
	sameDir := m.dirs[a.Doc] == m.dirs[b.Doc]
	switch {
	case a.isTop() && b.isTop(), a.isTop() && b.Decl.Kind == api.DImport, a.Decl.Kind == api.DImport && b.isTop():
		return sameDir
	case a.isMember() && b.isMember():
		return sameDir && a.typ == b.typ
	case a.Decl.Kind == api.DLabel && b.Decl.Kind == api.DLabel:
		return a.Doc == b.Doc && a.innermost(api.NFunc).At == b.innermost(api.NFunc).At
	case a.to > 0 && b.to > 0:
		return a.Doc == b.Doc && a.block.From == b.block.From && a.block.Kind == b.block.Kind
	}
	return false
}

func (m *model) declarationFaults() (l []api.Fault) {
	for _, d := range m.decls {
		for _, other := range m.decls {
			ahead := other.Doc < d.Doc || other.Doc == d.Doc && other.Decl.At < d.Decl.At
			if ahead && other.Decl.Name == d.Decl.Name && m.clash(other, d) {
				l = append(l, api.Fault{Doc: d.Doc, At: d.Decl.At, E: api.ErrTwice})
			}
		}
	}
	return l
}

// findUses finds all plain names, and what they stand for.
func (m *model) findUses() {
	for _, s := range m.spots {
		u := api.Use{Doc: s.doc, At: s.At, Name: s.Name}
		var l []api.Decl
		switch s.Kind {
		case api.NIdent:
			l = m.standsFor(s)
		case api.NTypeName:
			if slices.Contains([]string{"int", "bool", "string", "float64"}, s.Name) {
				continue
			}
			l = m.standsFor(s)
		case api.NBreak, api.NContinue:
			if s.Name == "" {
				continue
			}
			l = m.labels(s)
		case api.NSel, api.NTypeSel:
			from := spot{s.Kids[0], s.doc, append(slices.Clone(s.around), s.Node)}
			if from.Kind != api.NIdent {
				continue
			}
			imports := m.standsFor(from)
			if len(imports) == 0 || imports[0].Kind != api.DImport {
				continue
			}
			l = m.tops(imports[0].Dir, s.Name)
		default:
			continue
		}
		if len(l) > 0 {
			u.Is, u.Decl = true, l[0]
		}
		m.uses = append(m.uses, u)
	}
	slices.SortFunc(m.uses, func(a, b api.Use) int { return cmp.Or(a.Doc-b.Doc, a.At-b.At) })
}

// standsFor is what the name of a spot stands for: the first one of what is told.
func (m *model) standsFor(s spot) (l []api.Decl) {
	var known []declared
	for _, d := range m.decls {
		if d.Doc == s.doc && d.Decl.Name == s.Name && d.from <= s.At && s.At < d.to {
			known = append(known, d)
		}
	}
	// Blocks around one place lie in one another: the innermost one begins last.
	slices.SortFunc(known, func(a, b declared) int { return b.block.From - a.block.From })
	for _, d := range known {
		l = append(l, d.Decl)
	}
	for _, d := range m.decls {
		if d.Decl.Kind == api.DImport && d.Doc == s.doc && d.Decl.Name == s.Name {
			l = append(l, d.Decl)
		}
	}
	return append(l, m.tops(m.dirs[s.doc], s.Name)...)
}

// tops are a package's of a name; all of them, if that is nothing.
func (m *model) tops(dir, name string) (l []api.Decl) {
	for _, d := range m.decls {
		if d.isTop() && d.Dir == dir && (name == "" || d.Decl.Name == name) {
			l = append(l, d.Decl)
		}
	}
	return l
}

// members are a type's of a name; all of them, if that is nothing.
func (m *model) members(dir, typ, name string) (l []api.Decl) {
	for _, kind := range []int{api.DField, api.DMethod} {
		for _, d := range m.decls {
			if d.Decl.Kind == kind && d.Dir == dir && d.typ == typ && (name == "" || d.Decl.Name == name) {
				l = append(l, d.Decl)
			}
		}
	}
	return l
}

// labels are those of a spot's name around it, the innermost first.
func (m *model) labels(s spot) (l []api.Decl) {
	for _, n := range slices.Backward(s.around) {
		if n.Kind == api.NLabel && n.Name == s.Name {
			l = append(l, api.Decl{Kind: api.DLabel, Name: n.Name, Doc: s.doc, At: n.At, Dir: m.dirs[s.doc]})
		}
	}
	return l
}
