package check

import (
	"math/rand"
	"slices"
	"strings"
	"testing"

	"emend/api"
	"emend/lexer"
	"emend/scope"
	"emend/types"
)

// check holds what Make tells of documents against the model, and all that is asked of the info, if there is no fault.
func check(t *testing.T, docs []api.Doc) (*Info, *model, api.Fault) {
	t.Helper()
	x, f := Make(docs)
	m, want := makeModel(docs)
	if f != want || (x == nil) != (want.E != api.OK) {
		t.Fatalf("Make: %v, not %v, of %s", f, want, shown(docs))
	}
	if x != nil {
		checkTypes(t, x, m)
		checkFound(t, x, m)
	}
	return x, m, f
}

// shown are documents as one text.
func shown(docs []api.Doc) string {
	text := ""
	for _, doc := range docs {
		text += "\n" + doc.URI + "\n" + doc.Text
	}
	return text
}

// checkTypes: P15.2, of all nodes, and of what is nearly one.
func checkTypes(t *testing.T, x *Info, m *model) {
	t.Helper()
	type key [4]int
	want := map[key]types.Type{}
	for _, s := range m.spots {
		if y, ok := m.typ(s); ok && s.isExpr() {
			want[key{s.doc, s.Kind, s.From, s.To}] = y
		}
	}
	for _, s := range m.spots {
		for _, k := range []key{{s.doc, s.Kind, s.From, s.To}, {s.doc + 1, s.Kind, s.From, s.To}, {-1, s.Kind, s.From, s.To},
			{s.doc, s.Kind, s.From, s.To + 1}, {s.doc, s.Kind, s.From - 1, s.To}, {s.doc, s.Kind + 1, s.From, s.To}, {s.doc, -s.Kind, s.From, s.To}} {
			// Its other parts are of no weight.
			got, ok := x.Type(k[0], api.Node{Kind: k[1], From: k[2], To: k[3], At: -s.At, Name: "none"})
			if y, is := want[k]; got != y || ok != is {
				t.Fatalf("Type of %v: %v, %t, not %v, %t", k, got, ok, y, is)
			}
		}
		if got, ok := x.Type(s.doc, *s.Node); got != want[key{s.doc, s.Kind, s.From, s.To}] {
			t.Fatalf("Type of %v: %v, %t", s.Node, got, ok)
		}
	}
}

// checkFound: P15.3, members, and what is found at each place.
func checkFound(t *testing.T, x *Info, m *model) {
	t.Helper()
	found := map[[2]int]api.Decl{}
	var members []api.Use
	for _, s := range m.spots {
		if d, ok := m.stands(s); ok {
			members = append(members, api.Use{Doc: s.doc, At: s.At, Name: s.Name, Is: true, Decl: d})
		}
	}
	slices.SortFunc(members, func(a, b api.Use) int { return (a.Doc-b.Doc)<<20 + a.At - b.At })
	if l := x.Members(); !slices.Equal(l, members) {
		t.Fatalf("Members: %v, not %v", l, members)
	}
	for _, u := range slices.Concat(m.p.Names(), members) {
		found[[2]int{u.Doc, u.At}] = u.Decl
	}
	for at, d := range m.decls {
		found[at] = d
	}
	for doc := -1; doc <= m.p.Len(); doc++ {
		for at := -2; at <= len(m.p.Doc(doc).Text)+1; at++ {
			want, is := found[[2]int{doc, at}]
			if d, ok := x.Find(doc, at); d != want || ok != is {
				t.Fatalf("Find(%d, %d): %v, %t, not %v", doc, at, d, ok, want)
			}
		}
	}
}

// isDeclared tells whether documents have no faults of scope and types.
func isDeclared(docs []api.Doc) bool {
	p, f := scope.Make(docs)
	if f.E != api.OK {
		return false
	}
	_, f = types.Make(p)
	return f.E == api.OK
}

// some are documents that a short rule writes, of which one choice of so many does not fit.
func some(r *rand.Rand, slips int) []api.Doc {
	for {
		if docs := (&source{Rand: r, slips: slips}).workspace(); isDeclared(docs) {
			return docs
		}
	}
}

// mostFaults is more than the programs have that a short rule writes.
const mostFaults = 1000

// mended are documents that a short rule writes, without faults: what ask tells of them is mended, one behind the other.
func mended(t *testing.T, r *rand.Rand, slips int, ask func(docs []api.Doc) api.Fault) []api.Doc {
	t.Helper()
	docs := some(r, slips)
	for range mostFaults {
		f := ask(docs)
		if f.E == api.OK {
			return docs
		}
		mend(docs, f)
	}
	t.Fatalf("there is no end of faults in %s", shown(docs))
	return nil
}

// faultOf is what Make tells of documents.
func faultOf(docs []api.Doc) api.Fault {
	_, f := Make(docs)
	return f
}

// TestModel: P15.1 to P15.3, of programs that a short rule writes: each fault is mended, one behind the other, until there
// is none left.
func TestModel(t *testing.T) {
	t.Parallel()
	r := rand.New(rand.NewSource(15))
	told, kinds, members := map[api.Errno]int{}, map[int]int{}, map[int]int{}
	for i := range 60 {
		var x *Info
		var m *model
		mended(t, r, []int{0, 10, 30, 100}[i%4], func(docs []api.Doc) (f api.Fault) {
			x, m, f = check(t, docs)
			told[f.E]++
			return f
		})
		for _, s := range m.spots {
			if y, ok := m.typ(s); ok {
				kinds[y.Kind]++
			}
		}
		for _, u := range x.Members() {
			members[u.Decl.Kind]++
		}
	}
	for _, e := range []api.Errno{api.ErrBound, api.ErrTwice, api.ErrType, api.ErrFlow, api.ErrHidden} {
		if told[e] < 5 {
			t.Errorf("%d was told %d times", e, told[e])
		}
	}
	for kind := types.None; kind <= types.Struct; kind++ {
		if kinds[kind] < 50 {
			t.Errorf("the type %d has %d expressions", kind, kinds[kind])
		}
	}
	if members[api.DField] < 50 || members[api.DMethod] < 50 {
		t.Errorf("members: %v", members)
	}
}

// spoil puts another one in the place of a token of a document, mostly one of its kind; or takes a line away.
func spoil(r *rand.Rand, docs []api.Doc) {
	i := r.Intn(len(docs))
	text := docs[i].Text
	if r.Intn(5) == 0 {
		lines := strings.Split(text, "\n")
		at := r.Intn(len(lines))
		docs[i].Text = strings.Join(slices.Delete(lines, at, at+1), "\n")
		return
	}
	kind := []int{lexer.KName, lexer.KName, lexer.KName, lexer.KWord, lexer.KInt, lexer.KFloat, lexer.KString, lexer.KMark}[r.Intn(8)]
	l, _, _ := lexer.Tokens(text)
	members := kind == lexer.KName && r.Intn(2) == 0
	l = slices.DeleteFunc(l, func(one lexer.Token) bool {
		word, _, _ := strings.Cut(text[strings.LastIndexByte(text[:one.From], '\n')+1:], " ")
		return one.Kind != kind || members && text[one.From-1] != '.' || slices.Contains([]string{"package", "import", "type", "func"}, word)
	})
	if len(l) == 0 {
		return
	}
	one, fresh := l[r.Intn(len(l))], l[r.Intn(len(l))].Text
	if members && r.Intn(2) == 0 {
		fresh = string(one.Text[0]^0x20) + one.Text[1:]
	}
	if r.Intn(10) == 0 {
		fresh = []string{"1", "1.5", "true", `""`, "", "-1", "q.T", "!true", "f()", "break", "T{}"}[r.Intn(11)]
	}
	docs[i].Text = text[:one.From] + fresh + text[one.To:]
}

// TestSpoiled: P15.1, programs in which some tokens are others, or a line is missing.
func TestSpoiled(t *testing.T) {
	t.Parallel()
	r := rand.New(rand.NewSource(151))
	told := map[api.Errno]int{}
	for range 40 {
		docs := mended(t, r, 30, faultOf)
		for range 30 {
			now := slices.Clone(docs)
			for range 1 + r.Intn(2) {
				spoil(r, now)
			}
			_, _, f := check(t, now)
			if isDeclared(now) {
				told[f.E]++
			}
		}
	}
	for _, e := range []api.Errno{api.OK, api.ErrBound, api.ErrType, api.ErrFlow, api.ErrHidden} {
		if told[e] < 3 {
			t.Errorf("%d was told %d times", e, told[e])
		}
	}
}
