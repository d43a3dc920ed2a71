package scope

import (
	"math/rand"
	"reflect"
	"slices"
	"strconv"
	"testing"

	"emend/api"
)

// check holds all that a program answers against the model. It tells the fault, and the program's model, if there is none.
func check(t *testing.T, docs []api.Doc) (*model, api.Fault) {
	t.Helper()
	p, f := Make(docs)
	m, want := makeModel(docs)
	if f != want || (p == nil) != (want.E != api.OK) {
		t.Fatalf("Make: %v, not %v, of %v", f, want, docs)
	}
	if p != nil {
		checkDocs(t, p, m)
		checkDeclared(t, p, m)
		checkNames(t, p, m)
		checkNodes(t, p, m)
	}
	return m, f
}

// checkDocs: P13.2, documents, their trees and directories.
func checkDocs(t *testing.T, p *Program, m *model) {
	t.Helper()
	if p.Len() != len(m.docs) {
		t.Fatalf("Len: %d, not %d", p.Len(), len(m.docs))
	}
	for i, doc := range m.docs {
		if p.Doc(i) != doc || p.Dir(i) != m.dirs[i] || !reflect.DeepEqual(p.File(i), m.files[i]) {
			t.Fatalf("document %d: %v in %s", i, p.Doc(i), p.Dir(i))
		}
	}
	for _, i := range []int{-1, len(m.docs), -1 << 63, 1<<63 - 1} {
		if p.Doc(i) != (api.Doc{}) || p.Dir(i) != "" || !reflect.DeepEqual(p.File(i), api.Node{}) {
			t.Fatalf("document %d: %v in %s", i, p.Doc(i), p.Dir(i))
		}
	}
}

// first tells whether a declaration is the first of a list; the zero one and false, if that is empty.
func first(d api.Decl, ok bool, l []api.Decl) bool {
	if len(l) == 0 {
		return !ok && d == api.Decl{}
	}
	return ok && d == l[0]
}

// checkDeclared: P13.2, tops and members, of all names, and of some that are none.
func checkDeclared(t *testing.T, p *Program, m *model) {
	t.Helper()
	names := []string{"", "int", "zz", "é"}
	for _, d := range m.decls {
		names = append(names, d.Decl.Name)
	}
	slices.Sort(names)
	names = slices.Compact(names)
	for _, dir := range append([]string{"", "zz"}, dirNames...) {
		if l := p.Tops(dir); !slices.Equal(l, m.tops(dir, "")) {
			t.Fatalf("Tops(%s): %v, not %v", dir, l, m.tops(dir, ""))
		}
		for _, name := range names {
			if d, ok := p.Top(dir, name); name != "" && !first(d, ok, m.tops(dir, name)) || name == "" && ok {
				t.Fatalf("Top(%s, %s): %v, %t", dir, name, d, ok)
			}
			if l := p.Members(dir, name); !slices.Equal(l, m.members(dir, name, "")) {
				t.Fatalf("Members(%s, %s): %v, not %v", dir, name, l, m.members(dir, name, ""))
			}
			for _, member := range names {
				d, ok := p.Member(dir, name, member)
				if member != "" && !first(d, ok, m.members(dir, name, member)) || member == "" && ok {
					t.Fatalf("Member(%s, %s, %s): %v, %t", dir, name, member, d, ok)
				}
			}
		}
	}
}

// checkNames: P13.3, names, and what is found at each place.
func checkNames(t *testing.T, p *Program, m *model) {
	t.Helper()
	if l := p.Names(); !slices.Equal(l, m.uses) {
		for i, u := range m.uses {
			if i >= len(l) || l[i] != u {
				t.Fatalf("Names: %v, not %v, of %v", l[i:], u, m.docs)
			}
		}
		t.Fatalf("Names: %d, not %d", len(l), len(m.uses))
	}
	at := map[[2]int]api.Use{}
	for _, u := range m.uses {
		at[[2]int{u.Doc, u.At}] = u
	}
	for i := -1; i <= len(m.docs); i++ {
		size := 10
		if i >= 0 && i < len(m.docs) {
			size = len(m.docs[i].Text)
		}
		for place := -1; place <= size+1; place++ {
			want, is := at[[2]int{i, place}]
			if u, ok := p.Find(i, place); u != want || ok != is {
				t.Fatalf("Find(%d, %d): %v, %t, not %v", i, place, u, ok, want)
			}
		}
	}
}

// checkNodes: P13.3, the nodes of all declarations, and of what is nearly one.
func checkNodes(t *testing.T, p *Program, m *model) {
	t.Helper()
	for _, d := range m.decls {
		if n := p.Node(d.Decl); !reflect.DeepEqual(n, d.Node) {
			t.Fatalf("Node(%v): %v, not %v", d.Decl, n, d.Node)
		}
		for i := range 5 {
			if other := spoilt(d.Decl, i); !reflect.DeepEqual(p.Node(other), api.Node{}) {
				t.Fatalf("Node(%v): %v", other, p.Node(other))
			}
		}
	}
	if n := p.Node(api.Decl{}); !reflect.DeepEqual(n, api.Node{}) {
		t.Fatalf("Node of none: %v", n)
	}
}

// spoilt is a declaration of which one thing is another one.
func spoilt(d api.Decl, i int) api.Decl {
	switch i {
	case 0:
		d.Kind = d.Kind%8 + 1
	case 1:
		d.Name += "x"
	case 2:
		d.Doc += 100
	case 3:
		d.At++
	default:
		d.Dir += "x"
	}
	return d
}

// mostFaults is more than the programs have that a short rule writes.
const mostFaults = 1000

// TestModel: P13.1 to P13.3, of programs that a short rule writes: each fault is mended, one behind the other, until there
// is none left.
func TestModel(t *testing.T) {
	t.Parallel()
	r := rand.New(rand.NewSource(13))
	told, names, standing := map[api.Errno]int{}, 0, map[int]int{}
	for range 120 {
		docs := (&source{Rand: r}).workspace()
		m, f := check(t, docs)
		for i := 0; f.E != api.OK; i++ {
			if i == mostFaults {
				t.Fatalf("%v is not mended in %v", f, docs)
			}
			told[f.E]++
			mend(docs, dirsOf(docs), f, "n"+strconv.Itoa(i))
			m, f = check(t, docs)
		}
		names += len(m.uses)
		for _, u := range m.uses {
			standing[u.Decl.Kind]++
		}
	}
	for _, e := range []api.Errno{api.ErrName, api.ErrBound, api.ErrTwice, api.ErrCycle} {
		if told[e] < 5 {
			t.Errorf("%d was told %d times", e, told[e])
		}
	}
	for kind := range 9 {
		if kind != api.DMethod && kind != api.DField && standing[kind] < 5 {
			t.Errorf("of %d names %d stand for the kind %d", names, standing[kind], kind)
		}
	}
}

// dirsOf are documents' directories.
func dirsOf(docs []api.Doc) (l []string) {
	for _, doc := range docs {
		l = append(l, uriForm.FindStringSubmatch(doc.URI)[1])
	}
	return l
}

// TestSpoiled: P13.1, texts in which a piece is taken out, put in, or doubled.
func TestSpoiled(t *testing.T) {
	t.Parallel()
	r := rand.New(rand.NewSource(131))
	pieces := []string{"", "", ";", "{", "}", "(", "\n", "a", " T ", "1", `"q"`, "import \"q\"\n", "\xff", "break a", ":"}
	parsed := 0
	for range 1500 {
		docs := (&source{Rand: r}).workspace()
		for range 1 + r.Intn(2) {
			i := r.Intn(len(docs))
			text := docs[i].Text
			from := r.Intn(len(text) + 1)
			to := min(len(text), from+r.Intn(4))
			docs[i].Text = text[:from] + pieces[r.Intn(len(pieces))] + text[to:]
		}
		if _, f := check(t, docs); f.E != api.ErrForm && f.E != api.ErrUtf {
			parsed++
		}
	}
	if parsed < 50 {
		t.Errorf("%d were parsed", parsed)
	}
}
