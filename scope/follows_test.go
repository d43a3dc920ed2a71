package scope

import (
	"math/rand"
	"slices"
	"strconv"
	"strings"
	"testing"
	"unsafe"

	"emend/api"
)

// someProgram is one that a short rule writes, mended as long as it has faults.
func someProgram(t *testing.T, r *rand.Rand) ([]api.Doc, *Program) {
	t.Helper()
	docs := (&source{Rand: r}).workspace()
	p, f := Make(docs)
	for i := 0; f.E != api.OK; i++ {
		if i == mostFaults {
			t.Fatalf("%v is not mended in %v", f, docs)
		}
		mend(docs, dirsOf(docs), f, "n"+strconv.Itoa(i))
		p, f = Make(docs)
	}
	return docs, p
}

// TestNamesOfDecls: P13.4, names and what they stand for.
func TestNamesOfDecls(t *testing.T) {
	t.Parallel()
	r := rand.New(rand.NewSource(134))
	for range 150 {
		docs, p := someProgram(t, r)
		for _, u := range p.Names() {
			if text := docs[u.Doc].Text; text[u.At:nameEnd(text, u.At)] != u.Name {
				t.Fatalf("%v does not stand in %q", u, text)
			}
			d := u.Decl
			if !u.Is && d == (api.Decl{}) {
				continue
			}
			if !u.Is || d.Name != u.Name || p.Node(d).Name != u.Name {
				t.Fatalf("%v in %v", u, docs)
			}
			local := d.Kind == api.DVar || d.Kind == api.DParam || d.Kind == api.DLabel || d.Kind == api.DImport
			if local && (d.Doc != u.Doc || d.At >= u.At) {
				t.Fatalf("%v in %v", u, docs)
			}
			if text := docs[d.Doc].Text; d.Kind != api.DImport && text[d.At:nameEnd(text, d.At)] != d.Name {
				t.Fatalf("%v is not declared in %q", d, text)
			}
		}
	}
}

// TestLater: P13.4, what is declared behind names of a function changes none of them.
func TestLater(t *testing.T) {
	t.Parallel()
	r := rand.New(rand.NewSource(135))
	done := 0
	for range 300 {
		docs, p := someProgram(t, r)
		at, doc := -1, r.Intn(len(docs))
		text := docs[doc].Text
		if n := strings.Count(text, " }"); n > 0 {
			for range 1 + r.Intn(n) {
				at += 1 + strings.Index(text[at+1:], " }")
			}
		}
		if at < 0 {
			continue
		}
		later := []string{";var b int", ";q := 1", ";T: for { }", ";a := a"}[r.Intn(4)]
		docs[doc].Text = text[:at] + later + text[at:]
		now, f := Make(docs)
		if f.E != api.OK {
			continue
		}
		done++
		isAhead := func(u api.Use) bool { return u.Doc == doc && u.At < at }
		was, is := slices.DeleteFunc(p.Names(), not(isAhead)), slices.DeleteFunc(now.Names(), not(isAhead))
		for i := range was {
			if is[i].At != was[i].At || is[i].Decl.Kind != was[i].Decl.Kind || was[i].Decl.Kind >= api.DParam && is[i] != was[i] {
				t.Fatalf("%v became %v in %q", was[i], is[i], docs[doc].Text)
			}
		}
	}
	if done < 30 {
		t.Errorf("%d were programs", done)
	}
}

func not(f func(u api.Use) bool) func(u api.Use) bool {
	return func(u api.Use) bool { return !f(u) }
}

// place is a byte of a document.
type place struct{ doc, at int }

// renamed are documents in which a name stands at some places, in the place of those that stood there, and a function
// that tells where the byte of a place stands then.
func renamed(docs []api.Doc, places []place, name string) ([]api.Doc, func(place) place) {
	now := slices.Clone(docs)
	slices.SortFunc(places, func(a, b place) int { return b.at - a.at })
	for _, p := range places {
		text := now[p.doc].Text
		now[p.doc].Text = text[:p.at] + name + text[nameEnd(text, p.at):]
	}
	return now, func(x place) place {
		to := x
		for _, p := range places {
			if p.doc == x.doc && p.at < x.at {
				to.at += len(name) - (nameEnd(docs[p.doc].Text, p.at) - p.at)
			}
		}
		return to
	}
}

// TestRenamed: P13.5, a declaration, and all names that stand for it, get a name that stands nowhere.
func TestRenamed(t *testing.T) {
	t.Parallel()
	r := rand.New(rand.NewSource(136))
	for range 50 {
		docs, p := someProgram(t, r)
		names := p.Names()
		m, _ := makeModel(docs)
		for _, d := range m.decls {
			if d.Decl.Kind == api.DImport {
				continue
			}
			places := []place{{d.Doc, d.Decl.At}}
			for _, u := range names {
				if u.Decl == d.Decl {
					places = append(places, place{u.Doc, u.At})
				}
			}
			now, moved := renamed(docs, places, []string{"z", "another_name", "ZZ"}[r.Intn(3)])
			next, f := Make(now)
			if f.E != api.OK || len(next.Names()) != len(names) {
				t.Fatalf("%v: %v in %v", d.Decl, f, now)
			}
			for i, u := range next.Names() {
				at, to := moved(place{names[i].Doc, names[i].At}), moved(place{names[i].Decl.Doc, names[i].Decl.At})
				if u.Is && to != (place{u.Decl.Doc, u.Decl.At}) || u.Is != names[i].Is || at != (place{u.Doc, u.At}) {
					t.Fatalf("%v became %v, when %v was renamed in %v", names[i], u, d.Decl, docs)
				}
			}
		}
	}
}

// TestNone: P13.2 and P13.3, of nil and of what Make did not make.
func TestNone(t *testing.T) {
	t.Parallel()
	empty, f := Make(nil)
	if empty == nil || f != (api.Fault{}) {
		t.Fatalf("Make of none: %v", f)
	}
	for _, p := range []*Program{nil, {}, new(Program), empty} {
		checkDocs(t, p, &model{})
		checkDeclared(t, p, &model{})
		checkNames(t, p, &model{})
		checkNodes(t, p, &model{})
		if l := p.Names(); len(l) != 0 {
			t.Errorf("Names: %v", l)
		}
	}
}

// spoilLists writes over all lists of a tree.
func spoilLists(n api.Node) {
	for i, kid := range n.Kids {
		spoilLists(kid)
		n.Kids[i] = api.Node{Kind: -1, Name: "spoilt"}
	}
}

// TestNewMemory: what is handed in is neither changed nor kept, and what is answered is nobody else's.
func TestNewMemory(t *testing.T) {
	t.Parallel()
	r := rand.New(rand.NewSource(137))
	for range 50 {
		docs, _ := someProgram(t, r)
		var bytes [][]byte
		given := slices.Clone(docs)
		for i, doc := range docs {
			b := []byte(doc.URI + doc.Text)
			bytes = append(bytes, b)
			s := unsafe.String(unsafe.SliceData(b), len(b))
			given[i].URI, given[i].Text = s[:len(doc.URI)], s[len(doc.URI):]
		}
		p, _ := Make(given)
		if !slices.Equal(given, docs) {
			t.Fatalf("the documents were changed")
		}
		for i, b := range bytes {
			for at := range b {
				b[at] = '#'
			}
			given[i] = api.Doc{}
		}
		m, _ := makeModel(docs)
		for i := range docs {
			spoilLists(p.File(i))
		}
		for _, l := range [][]api.Decl{p.Tops("p"), p.Tops("q"), p.Members("p", "T"), p.Members("q", "T")} {
			clear(l[:cap(l)])
		}
		l := p.Names()
		clear(l[:cap(l)])
		for _, d := range m.decls {
			spoilLists(p.Node(d.Decl))
		}
		checkDocs(t, p, m)
		checkDeclared(t, p, m)
		checkNames(t, p, m)
		checkNodes(t, p, m)
	}
}

// TestTogether: several may ask one program at one time.
func TestTogether(t *testing.T) {
	t.Parallel()
	r := rand.New(rand.NewSource(138))
	docs, p := someProgram(t, r)
	m, _ := makeModel(docs)
	for i := range 8 {
		t.Run(strconv.Itoa(i), func(t *testing.T) {
			t.Parallel()
			for range 20 {
				checkDeclared(t, p, m)
				checkNames(t, p, m)
				checkNodes(t, p, m)
			}
		})
	}
}

// big is a text of a document of about 65536 bytes, that begins with one, and goes on with others by numbers.
func big(begin string, more func(i int) string, end string) string {
	var b strings.Builder
	b.WriteString(begin)
	for i := 0; b.Len()+len(more(i))+len(end) <= api.MaxText; i++ {
		b.WriteString(more(i))
	}
	b.WriteString(end)
	return b.String()
}

// TestBig: the greatest documents end, too: many names, blocks, declarations and imports.
func TestBig(t *testing.T) {
	t.Parallel()
	number := strconv.Itoa
	for i, c := range []struct {
		many  int
		begin string
		more  func(i int) string
		end   string
		names int
		e     api.Errno
	}{
		{4, "func f(a int) { f(a", func(int) string { return ",a" }, ") }", 30000, api.OK},
		{4, "func f(a int) { a = a;", func(int) string { return "{};" }, " }", 2, api.OK},
		{4, "", func(i int) string { return "func f" + number(i) + "() { f0() };" }, "", 2000, api.OK},
		{4, "func f() { ", func(i int) string { return "a" + number(i) + " := a" + number(i/2) + ";" }, "}", 4000, api.OK},
		{4, "type T struct { ", func(i int) string { return "a" + number(i) + " T;" }, "}", 7000, api.OK},
		{4, "func f(a int) { " + strings.Repeat("{", 55), func(int) string { return "a=b;" }, strings.Repeat("}", 56), 30000, api.OK},
		{32, "", func(i int) string { return `import "d` + number(i%32) + `";` }, "", 0, api.ErrCycle},
	} {
		var docs []api.Doc
		for n := range c.many {
			dir := "d" + number(n)
			docs = append(docs, api.Doc{URI: "file:///" + dir + "/a.go", Text: big("package "+dir+"; "+c.begin, c.more, c.end)})
		}
		slices.SortFunc(docs, func(a, b api.Doc) int { return strings.Compare(a.URI, b.URI) })
		p, f := Make(docs)
		if f.E != c.e || len(p.Names()) < c.many*c.names {
			t.Errorf("%d: %v, %d names", i, f, len(p.Names()))
		}
	}
}
