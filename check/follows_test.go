package check

import (
	"math/rand"
	"slices"
	"strconv"
	"strings"
	"testing"
	"unsafe"

	"emend/api"
	"emend/types"
)

// TestAllTyped: P15.4, each expression that is no function, no method and no package has a type, and all names stand for
// something.
func TestAllTyped(t *testing.T) {
	t.Parallel()
	r := rand.New(rand.NewSource(154))
	for range 30 {
		docs := mended(t, r, 40, faultOf)
		x, m, _ := check(t, docs)
		for _, s := range m.spots {
			if !s.isExpr() {
				continue
			}
			_, ok := x.Type(s.doc, *s.Node)
			called := (s.Kind == api.NIdent || s.Kind == api.NSel) && s.isFirstOf(api.NCall)
			d, _ := x.Find(s.doc, s.At)
			if ok == (called || d.Kind == api.DImport) {
				t.Fatalf("%v has a type: %t, in %s", s.Node, ok, docs[s.doc].Text)
			}
		}
		for _, u := range x.Program().Names() {
			if d, ok := x.Find(u.Doc, u.At); !u.Is || !ok || d != u.Decl {
				t.Fatalf("%v stands for %v", u, d)
			}
		}
		for _, s := range m.spots {
			if s.Kind != api.NSel && s.Kind != api.NKeyed {
				continue
			}
			if d, ok := x.Find(s.doc, s.At); !ok || d.Name != s.Name {
				t.Fatalf("%s stands for %v", s.Name, d)
			}
		}
	}
}

// TestDefinedByVar: P15.4, what is declared by := may be declared by var.
func TestDefinedByVar(t *testing.T) {
	t.Parallel()
	r := rand.New(rand.NewSource(155))
	done := 0
	for range 20 {
		docs := mended(t, r, 40, faultOf)
		x, m, _ := check(t, docs)
		for _, s := range m.spots {
			if s.Kind != api.NDefine || s.parent().Kind == api.NFor {
				continue
			}
			y, _ := x.Type(s.doc, s.Kids[0])
			if y.Kind == types.Struct {
				continue
			}
			now, text := slices.Clone(docs), docs[s.doc].Text
			now[s.doc].Text = text[:s.From] + "var " + s.Name + " " + y.Text() + " = " + text[s.Kids[0].From:]
			if _, f := Make(now); f.E != api.OK {
				t.Fatalf("%v in %s", f, now[s.doc].Text)
			}
			done++
		}
	}
	if done < 20 {
		t.Errorf("%d were declared by :=", done)
	}
}

// TestNewMemory: what is handed in is neither changed nor kept, and what is answered is nobody else's.
func TestNewMemory(t *testing.T) {
	t.Parallel()
	r := rand.New(rand.NewSource(156))
	for range 20 {
		docs := mended(t, r, 40, faultOf)
		m, _ := makeModel(docs)
		var bytes [][]byte
		given := slices.Clone(docs)
		for i, doc := range docs {
			b := []byte(doc.URI + doc.Text)
			bytes = append(bytes, b)
			s := unsafe.String(unsafe.SliceData(b), len(b))
			given[i].URI, given[i].Text = s[:len(doc.URI)], s[len(doc.URI):]
		}
		x, _ := Make(given)
		if !slices.Equal(given, docs) {
			t.Fatalf("the documents were changed")
		}
		for i, b := range bytes {
			for at := range b {
				b[at] = '#'
			}
			given[i] = api.Doc{}
		}
		l := x.Members()
		clear(l[:cap(l)])
		checkTypes(t, x, m)
		checkFound(t, x, m)
	}
}

// TestTogether: several may ask one info at one time.
func TestTogether(t *testing.T) {
	t.Parallel()
	x, m, _ := check(t, mended(t, rand.New(rand.NewSource(157)), 40, faultOf))
	for i := range 8 {
		t.Run(strconv.Itoa(i), func(t *testing.T) {
			t.Parallel()
			for range 5 {
				checkTypes(t, x, m)
				checkFound(t, x, m)
			}
		})
	}
}

// big are documents of one package, each of at most 65536 bytes: the first one declares some, each other one has a function
// of what is written by numbers.
func big(many int, first string, one func(i int) string) []api.Doc {
	docs := []api.Doc{{URI: "file:///p/a.go", Text: "package p; " + first}}
	for n := range many {
		var text strings.Builder
		text.WriteString("package p; func g" + strconv.Itoa(n) + "(a int, t T) int { ")
		for i := 0; text.Len()+len(one(i)) < api.MaxText-20; i++ {
			text.WriteString(one(i))
		}
		docs = append(docs, api.Doc{URI: "file:///p/b" + strconv.Itoa(100+n) + ".go", Text: text.String() + "return 1 }"})
	}
	return docs
}

// TestBig: the greatest workspaces end, too.
func TestBig(t *testing.T) {
	t.Parallel()
	name := func(prefix string, i int) string { return prefix + strconv.Itoa(i) }
	row := func(n int, one func(i int) string) (text string) {
		for i := range n {
			text += one(i)
		}
		return text
	}
	params := row(6000, func(i int) string { return name("p", i) + " int," })
	small := "type T struct { a int }; func f(a int) int { return a }"
	for i, c := range []struct {
		first string
		one   func(i int) string
		e     api.Errno
	}{
		{small, func(int) string { return "a=f(a)+t.a;" }, api.OK},
		{small, func(i int) string { return name("x", i) + ":=" + name("x", max(i-1, 0)) + "+1;" }, api.ErrBound},
		{small, func(i int) string { return name("x", i) + ":=a+" + name("x", i/2) + ";" }, api.ErrBound},
		{small, func(i int) string { return name("x", i) + ":=t.a;{" + name("x", i) + "=" + name("x", i/2) + "};" }, api.OK},
		{small, func(int) string { return "for{for{break};break};" }, api.OK},
		{small, func(i int) string { return name("L", i) + ":for{for{break " + name("L", i) + "}};" }, api.OK},
		{small, func(int) string { return "t=T{a:1,a:2};" }, api.ErrTwice},
		{"type T struct {" + row(256, func(i int) string { return name("a", i) + " int;" }) + "}", func(i int) string { return name("t.a", i%256) + "=1;" }, api.OK},
		{"type T struct { a int }; func f(" + params + " last int) {}", func(int) string { return "f();" }, api.ErrType},
		{"type T struct { a int }; func (t T) f(" + params + " last int) {}", func(int) string { return "t.f();" }, api.ErrType},
	} {
		docs := big(8, c.first, c.one)
		if _, f := Make(docs); f.E != c.e {
			t.Errorf("%d: %v", i, f)
		}
	}
}
