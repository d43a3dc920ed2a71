package scope

import (
	"cmp"
	"strings"

	"emend/api"
	"emend/docs"
	"emend/parser"
)

// maker makes a program, phase by phase.
type maker struct {
	*Program
	least    api.Fault         // OK, as long as none was told
	imports  []*block          // each document's, inside its package's block
	imported map[string]*block // by directories, what the package's documents import
}

// isWorkspace tells whether documents have rising URIs.
func isWorkspace(l []api.Doc) bool {
	for i, doc := range l {
		if _, ok := docs.Dir(doc.URI); !ok || i > 0 && doc.URI <= l[i-1].URI {
			return false
		}
	}
	return true
}

// newMaker is one of a workspace, of which it keeps nothing.
func newMaker(workspace []api.Doc) *maker {
	p := &Program{packs: map[string]*pack{}, nodes: map[api.Decl]api.Node{}}
	m := &maker{Program: p, imported: map[string]*block{}}
	for _, doc := range workspace {
		doc.URI, doc.Text = strings.Clone(doc.URI), strings.Clone(doc.Text)
		dir, _ := docs.Dir(doc.URI)
		if p.packs[dir] == nil {
			p.packs[dir] = &pack{block: inside(nil), members: map[string]*members{}}
			m.imported[dir] = inside(nil)
		}
		p.docs, p.dirs = append(p.docs, doc), append(p.dirs, dir)
		m.imports = append(m.imports, inside(p.packs[dir].block))
	}
	return m
}

// tell tells of a fault, of which the least one is kept.
func (m *maker) tell(doc, at int, e api.Errno) {
	l := m.least
	if l.E == api.OK || cmp.Or(cmp.Compare(doc, l.Doc), cmp.Compare(at, l.At), cmp.Compare(e, l.E)) < 0 {
		m.least = api.Fault{Doc: doc, At: at, E: e}
	}
}

// put declares something in a block, and tells of it, if that has one of its name.
func (m *maker) put(b *block, d api.Decl) {
	if !b.put(d) {
		m.tell(d.Doc, d.At, api.ErrTwice)
	}
}

// apart tells of a declaration, if one of its name is in a block where it does not stand itself.
func (m *maker) apart(b *block, d api.Decl) {
	if _, ok := b.find(d.Name); ok {
		m.tell(d.Doc, d.At, api.ErrTwice)
	}
}

// parse reads all texts.
func (m *maker) parse() {
	for i, doc := range m.docs {
		n, place, e := parser.Parse(doc.Text)
		if e != api.OK {
			m.tell(i, place, e)
		}
		m.files = append(m.files, n)
	}
}

// importsOf are a document's.
func (m *maker) importsOf(doc int) (l []api.Decl) {
	for _, n := range m.files[doc].Kids {
		if n.Kind == api.NImport {
			l = append(l, m.declared(doc, n))
		}
	}
	return l
}

// lookAtImports tells of packages' names, and of imports, that may not be.
func (m *maker) lookAtImports() {
	reached := m.reached()
	for doc, file := range m.files {
		if file.Name != m.dirs[doc] {
			m.tell(doc, file.At, api.ErrName)
		}
		for _, d := range m.importsOf(doc) {
			m.put(m.imports[doc], d)
			if m.packs[d.Dir] == nil {
				m.tell(doc, d.At, api.ErrBound)
			}
			// What imports itself is reached from itself by this very import.
			if _, ok := reached[d.Dir][m.dirs[doc]]; ok {
				m.tell(doc, d.At, api.ErrCycle)
			}
		}
	}
}

// reached are, of each package, the directories that it imports, those that they import, and so on.
func (m *maker) reached() map[string]map[string]struct{} {
	leads := map[string][]string{}
	for doc, dir := range m.dirs {
		for _, d := range m.importsOf(doc) {
			leads[dir] = append(leads[dir], d.Dir)
		}
	}
	reached := map[string]map[string]struct{}{}
	for dir := range m.packs {
		met := map[string]struct{}{}
		var follow func(dir string)
		follow = func(dir string) {
			for _, next := range leads[dir] {
				if _, ok := met[next]; !ok {
					met[next] = struct{}{}
					follow(next)
				}
			}
		}
		follow(dir)
		reached[dir] = met
	}
	return reached
}
