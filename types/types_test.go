package types

import (
	"math"
	"math/rand"
	"reflect"
	"slices"
	"strings"
	"testing"

	"emend/api"
	"emend/scope"
)

// program is scope's of documents that it takes.
func program(t *testing.T, docs []api.Doc) *scope.Program {
	t.Helper()
	p, f := scope.Make(docs)
	if f.E != api.OK {
		t.Fatalf("no program: %v, of %.2000v", f, docs)
	}
	return p
}

// check holds what Make tells of documents against the model, and all that is asked of the types, if there is no fault.
func check(t *testing.T, docs []api.Doc) (*Types, *model, api.Fault) {
	t.Helper()
	p := program(t, docs)
	ts, f := Make(p)
	m, want := makeModel(p)
	if f != want || (ts == nil) != (want.E != api.OK) {
		t.Fatalf("Make: %v, not %v, of %.2000v", f, want, docs)
	}
	if ts != nil {
		checkAll(t, ts, m)
	}
	return ts, m, f
}

// checkAll holds all but Of, and all values, against the model.
func checkAll(t *testing.T, ts *Types, m *model) {
	t.Helper()
	for _, x := range m.some() {
		if l := ts.Fields(x); !slices.Equal(l, m.fields(x)) {
			t.Fatalf("Fields(%v): %v, not %v", x, l, m.fields(x))
		}
		if size := strings.Count(m.shape(x), ","); ts.Size(x) != size {
			t.Fatalf("Size(%v): %d, not %d", x, ts.Size(x), size)
		}
		zero := ts.Zero(x)
		if shape := m.shape(x); shape != "" && shown(zero) != shape || shape == "" && zero.Kind != api.VNone || !isZero(zero) {
			t.Fatalf("Zero(%v): %v", x, zero)
		}
		if ts.Fits(x, zero) != (m.shape(x) != "") {
			t.Fatalf("Fits(%v, %v): %t", x, zero, ts.Fits(x, zero))
		}
	}
	checkSignatures(t, ts, m)
}

// some are types: those of the program, the four others, None, and such as are none.
func (m *model) some() (l []Type) {
	for kind := -1; kind <= Struct+1; kind++ {
		l = append(l, Type{Kind: kind}, Type{kind, "p", ""}, Type{kind, "", "T"}, Type{kind, "p", "T"}, Type{kind, "q", "T"})
	}
	for _, d := range m.structs {
		l = append(l, own(d), Type{Int, d.Dir, d.Name}, Type{Struct, d.Name, d.Dir}, Type{Struct, d.Dir, d.Name + "x"})
	}
	for _, d := range m.funcs {
		l = append(l, own(d))
	}
	return append(l, Type{math.MaxInt, "p", "T"}, Type{math.MinInt, "", ""})
}

// checkSignatures: P14.3, of all functions and methods, of names that are some of another type, and of none.
func checkSignatures(t *testing.T, ts *Types, m *model) {
	t.Helper()
	dirs, names := []string{"", "p", "q", "r", "z"}, []string{"", "int", "zz", "T", "U", "f", "m", "a0", "q"}
	want := map[[3]string]Signature{} // by directory, the type's name, or nothing, and name
	for _, d := range m.funcs {
		s := m.signature(d)
		want[[3]string{d.Dir, s.Own.Name, d.Name}] = s
		names = append(names, d.Name)
	}
	slices.Sort(names)
	names = slices.Compact(names)
	for _, dir := range dirs {
		for _, name := range names {
			s, ok := ts.Func(dir, name)
			if w, is := want[[3]string{dir, "", name}]; !sameSignature(s, w) || ok != is {
				t.Fatalf("Func(%s, %s): %v, %t, not %v", dir, name, s, ok, w)
			}
		}
	}
	for _, x := range m.some() {
		for _, name := range names {
			s, ok := ts.Method(x, name)
			w, is := want[[3]string{x.Pkg, x.Name, name}]
			if x.Kind != Struct || x.Name == "" {
				w, is = Signature{}, false
			}
			if !sameSignature(s, w) || ok != is {
				t.Fatalf("Method(%v, %s): %v, %t, not %v", x, name, s, ok, w)
			}
		}
	}
	for _, d := range m.funcs {
		s := m.signature(d)
		for i, param := range s.Params {
			if !reflect.DeepEqual(m.p.Node(param.Decl), m.p.Node(d).Kids[1].Kids[i]) {
				t.Fatalf("%v is no param of %v", param, d)
			}
		}
	}
}

func sameSignature(a, b Signature) bool {
	return a.Decl == b.Decl && a.Own == b.Own && slices.Equal(a.Params, b.Params) && a.Result == b.Result
}

// checkOf: P14.2, all nodes of the documents, in each document, and nodes that are none of theirs.
func checkOf(t *testing.T, r *rand.Rand, ts *Types, m *model, told map[api.Errno]int) {
	t.Helper()
	names := m.p.Names()
	place := func(at int) int {
		if len(names) == 0 || r.Intn(4) == 0 {
			return r.Intn(300) - 2
		}
		return []int{at, at + 1, names[r.Intn(len(names))].At}[r.Intn(3)]
	}
	one := func(doc int, n api.Node) {
		x, f := ts.Of(doc, n)
		want, wantF := m.of(doc, n)
		if x != want || f != wantF {
			t.Fatalf("Of(%d, %v): %v, %v, not %v, %v", doc, n, x, f, want, wantF)
		}
		told[f.E]++
	}
	var visit func(doc int, n api.Node)
	visit = func(doc int, n api.Node) {
		one(doc, n)
		one(r.Intn(m.p.Len()+2)-1, n)
		for range 3 {
			other := n
			other.Kind = []int{n.Kind, api.NTypeName, api.NTypeSel, api.NNone, r.Intn(36) - 1}[r.Intn(5)]
			other.At, other.From = place(n.At), r.Intn(100)
			other.Name = []string{n.Name, "int", "T", "t", "", "zz"}[r.Intn(6)]
			other.Kids = slices.Clone(n.Kids)
			if len(other.Kids) > 0 {
				other.Kids[0].At = place(n.Kids[0].At)
			}
			one(doc, other)
			other.Kids = nil
			one(doc, other)
		}
		for _, kid := range n.Kids {
			visit(doc, kid)
		}
	}
	for doc := range m.p.Len() {
		visit(doc, m.p.File(doc))
	}
}

// mostFaults is more than the programs have that a short rule writes.
const mostFaults = 1000

// mended are documents that a short rule writes, without the faults of their types; each is told.
func mended(t *testing.T, r *rand.Rand, tell func(f api.Fault)) ([]api.Doc, *Types, *model) {
	t.Helper()
	docs := (&source{Rand: r}).workspace()
	for range mostFaults {
		ts, m, f := check(t, docs)
		if f.E == api.OK {
			return docs, ts, m
		}
		tell(f)
		mend(docs, f)
	}
	t.Fatalf("there is no end of faults in %v", docs)
	return nil, nil, nil
}

// TestModel: P14.1 to P14.5, of programs that a short rule writes: each fault is mended, one behind the other, until there
// is none left.
func TestModel(t *testing.T) {
	t.Parallel()
	r := rand.New(rand.NewSource(14))
	told, asked, shapes := map[api.Errno]int{}, map[api.Errno]int{}, map[string]int{}
	for range 200 {
		_, ts, m := mended(t, r, func(f api.Fault) { told[f.E]++ })
		checkOf(t, r, ts, m, asked)
		checkFits(t, r, ts, m)
		for _, d := range m.structs {
			shapes[m.shape(own(d))]++
		}
	}
	for _, e := range []api.Errno{api.ErrBound, api.ErrType, api.ErrHidden, api.ErrCycle, api.ErrLong} {
		if told[e] < 10 {
			t.Errorf("%d was told %d times", e, told[e])
		}
	}
	for _, e := range []api.Errno{api.OK, api.ErrBound, api.ErrType, api.ErrHidden} {
		if asked[e] < 50 {
			t.Errorf("%d was answered %d times", e, asked[e])
		}
	}
	if len(shapes) < 100 {
		t.Errorf("structs have %d shapes", len(shapes))
	}
}
