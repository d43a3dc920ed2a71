package types

import (
	"math/rand"
	"reflect"
	"slices"
	"strconv"
	"strings"
	"testing"

	"emend/api"
	"emend/scope"
)

// leaves is how many values of the four kinds a value has, structs without fields counting as one.
func leaves(v api.Value) (n int) {
	for _, field := range v.Fields {
		n += leaves(field)
	}
	if v.Kind != api.VNone && len(v.Fields) == 0 {
		n = 1
	}
	return n
}

// TestZeroes: P14.5, of all types that programs have.
func TestZeroes(t *testing.T) {
	t.Parallel()
	r := rand.New(rand.NewSource(145))
	for range 100 {
		_, ts, m := mended(t, r, func(api.Fault) {})
		l := []Type{{}, {Kind: Int}, {Kind: Bool}, {Kind: String}, {Kind: Float}}
		for _, d := range m.structs {
			l = append(l, own(d))
		}
		for _, x := range l {
			if zero := ts.Zero(x); !ts.Fits(x, zero) || ts.Size(x) != leaves(zero) || ts.Size(x) > MostSize {
				t.Fatalf("of %v the size %d, the zero value %v", x, ts.Size(x), zero)
			}
		}
	}
}

// TestNil: what nil answers.
func TestNil(t *testing.T) {
	t.Parallel()
	var ts *Types
	nodes := []api.Node{{}, {Kind: api.NTypeName, At: 5, Name: "int"}, {Kind: api.NTypeSel, At: 5}, {Kind: api.NIdent, At: 5}}
	for _, n := range nodes {
		if x, f := ts.Of(3, n); x != (Type{}) || f != (api.Fault{E: api.ErrNil}) {
			t.Errorf("Of(%v): %v, %v", n, x, f)
		}
	}
	for kind := -1; kind <= 6; kind++ {
		for _, x := range []Type{{Kind: kind}, {kind, "p", "T"}} {
			zero := ts.Zero(x)
			if len(ts.Fields(x)) != 0 || ts.Size(x) != 0 || !reflect.DeepEqual(zero, api.Value{}) || ts.Fits(x, zero) || ts.Fits(x, api.Value{Kind: kind}) {
				t.Errorf("of %v: %v", x, zero)
			}
			if s, ok := ts.Method(x, "m"); ok || !sameSignature(s, Signature{}) {
				t.Errorf("Method of %v: %v", x, s)
			}
		}
	}
	if s, ok := ts.Func("p", "f"); ok || !sameSignature(s, Signature{}) {
		t.Errorf("Func: %v", s)
	}
}

// TestOfOthers: P14.2, nodes that no text has.
func TestOfOthers(t *testing.T) {
	t.Parallel()
	text := `package p; import "q"; type T struct { a q.U }; func f() { T := 1; { var x q.U }; print(T, f) }`
	ts := one(t, text+q)
	typ, imported, far, local := strings.Index(text, "T struct"), strings.Index(text, "q.U"), strings.Index(text, "U }"), strings.Index(text, "T, f")
	sel := func(at, from int) api.Node {
		return api.Node{Kind: api.NTypeSel, At: at, Name: "U", Kids: []api.Node{{Kind: api.NIdent, At: from, Name: "q"}}}
	}
	name := func(at int, name string) api.Node { return api.Node{Kind: api.NTypeName, At: at, Name: name} }
	u := Type{Struct, "q", "U"}
	for i, c := range []struct {
		doc  int
		n    api.Node
		want Type
		at   int
		e    api.Errno
	}{
		{0, sel(far, imported), u, 0, api.OK},
		{0, name(far, "T"), u, 0, api.OK},
		{0, api.Node{Kind: api.NTypeName, At: far}, u, 0, api.OK},
		{0, name(far, "float64"), Type{Kind: Float}, 0, api.OK},
		{-1, name(-1, "int"), Type{Kind: Int}, 0, api.OK},
		{0, name(typ, "T"), Type{}, typ, api.ErrBound},
		{0, name(far+1, "U"), Type{}, far + 1, api.ErrBound},
		{1, name(far, "U"), Type{}, far, api.ErrBound},
		{2, name(far, "U"), Type{}, far, api.ErrBound},
		{-1, name(far, "U"), Type{}, far, api.ErrBound},
		{0, name(-1, ""), Type{}, -1, api.ErrBound},
		{0, name(local, "T"), Type{}, local, api.ErrType},
		{0, name(local+3, "f"), Type{}, local + 3, api.ErrType},
		{0, name(imported, "q"), Type{}, imported, api.ErrType},
		{0, sel(far, far), Type{}, far, api.ErrType},
		{0, sel(far, local), Type{}, local, api.ErrType},
		{0, sel(far, 0), Type{}, 0, api.ErrBound},
		{0, sel(0, imported), Type{}, 0, api.ErrBound},
		{0, sel(imported, imported), Type{}, imported, api.ErrType},
		{0, api.Node{Kind: api.NTypeSel, At: far, Name: "U"}, Type{}, far, api.ErrType},
		{0, api.Node{Kind: api.NNone, At: far, Name: "U"}, Type{}, 0, api.OK},
		{9, api.Node{Kind: api.NIdent, At: far, Name: "U"}, Type{}, far, api.ErrType},
		{0, api.Node{Kind: -1, At: 3}, Type{}, 3, api.ErrType},
		{0, api.Node{Kind: api.NParen + 1, At: -3}, Type{}, -3, api.ErrType},
	} {
		want := api.Fault{}
		if c.e != api.OK {
			want = api.Fault{Doc: c.doc, At: c.at, E: c.e}
		}
		if x, f := ts.Of(c.doc, c.n); x != c.want || f != want {
			t.Errorf("%d: Of(%d, %v): %v, %v, not %v, %v", i, c.doc, c.n, x, f, c.want, want)
		}
	}
	for kind := range 40 {
		n := api.Node{Kind: kind, At: far, Name: "int", Kids: []api.Node{{Kind: api.NIdent, At: imported, Name: "q"}}}
		x, f := ts.Of(0, n)
		switch {
		case kind == api.NNone && x == (Type{}) && f == (api.Fault{}):
		case kind == api.NTypeName && x == (Type{Kind: Int}) && f == (api.Fault{}):
		case kind == api.NTypeSel && x == u && f == (api.Fault{}):
		case x == (Type{}) && f == (api.Fault{At: far, E: api.ErrType}) && kind != api.NTypeName && kind != api.NTypeSel && kind != api.NNone:
		default:
			t.Errorf("Of the kind %d: %v, %v", kind, x, f)
		}
	}
}

// spoilValue writes over all lists of a value.
func spoilValue(v api.Value) {
	for i, field := range v.Fields {
		spoilValue(field)
		v.Fields[i] = api.Value{Kind: -1, Str: "spoilt"}
	}
}

// TestNewMemory: P14.6, what is handed in is neither changed nor kept, and what is answered is nobody else's.
func TestNewMemory(t *testing.T) {
	t.Parallel()
	r := rand.New(rand.NewSource(146))
	for range 50 {
		docs, _, _ := mended(t, r, func(api.Fault) {})
		given, same := program(t, docs), program(t, docs)
		ts, _ := Make(given)
		if !reflect.DeepEqual(given, same) {
			t.Fatalf("the program was changed")
		}
		*given = scope.Program{}
		m, _ := makeModel(same)
		spoilAnswers(ts, m)
		checkAll(t, ts, m)
		checkOf(t, r, ts, m, map[api.Errno]int{})
		checkFits(t, r, ts, m)
	}
}

// spoilAnswers writes over all lists that are answered.
func spoilAnswers(ts *Types, m *model) {
	spoilMembers := func(l []Member) { clear(l[:cap(l)]) }
	for _, x := range m.some() {
		spoilMembers(ts.Fields(x))
		spoilValue(ts.Zero(x))
	}
	for _, d := range m.funcs {
		s, _ := ts.Func(d.Dir, d.Name)
		spoilMembers(s.Params)
		for _, x := range m.some() {
			s, _ := ts.Method(x, d.Name)
			spoilMembers(s.Params)
		}
	}
}

// TestOwnLists: P14.6, no two lists of one answer share memory.
func TestOwnLists(t *testing.T) {
	t.Parallel()
	ts := one(t, "package p; type T struct { a U; b U; c V }; type U struct { a V; b V }; type V struct { a int; b int }")
	zero := ts.Zero(Type{Struct, "p", "T"})
	next := int64(0)
	var write func(v api.Value)
	write = func(v api.Value) {
		for i := range v.Fields {
			next++
			v.Fields[i].Int = next
			write(v.Fields[i])
		}
	}
	write(zero)
	var met []int64
	var read func(v api.Value)
	read = func(v api.Value) {
		for _, field := range v.Fields {
			met = append(met, field.Int)
			read(field)
		}
	}
	read(zero)
	if len(met) != 17 || !slices.IsSorted(met) {
		t.Errorf("fields: %v", met)
	}
	v := ts.Zero(Type{Struct, "p", "T"})
	if !ts.Fits(Type{Struct, "p", "T"}, v) || !reflect.DeepEqual(v, ts.Zero(Type{Struct, "p", "T"})) {
		t.Errorf("Fits changed the value: %v", v)
	}
}

// TestTogether: several may ask at one time.
func TestTogether(t *testing.T) {
	t.Parallel()
	_, ts, m := mended(t, rand.New(rand.NewSource(147)), func(api.Fault) {})
	for i := range 8 {
		t.Run(strconv.Itoa(i), func(t *testing.T) {
			t.Parallel()
			r := rand.New(rand.NewSource(int64(i)))
			for range 10 {
				checkAll(t, ts, m)
				checkOf(t, r, ts, m, map[api.Errno]int{})
			}
		})
	}
}

// big are documents of one package, each of about 65536 bytes, of types by numbers, 0 the first one.
func big(many int, one func(i int) string) (docs []api.Doc, types int) {
	for n := range many {
		text := "package p; "
		for ; len(text)+len(one(types)) <= api.MaxText; types++ {
			text += one(types)
		}
		docs = append(docs, api.Doc{URI: "file:///p/a" + strconv.Itoa(100+n) + ".go", Text: text})
	}
	return docs, types
}

// TestBig: the greatest workspaces end, too, whatever lies in whatever.
func TestBig(t *testing.T) {
	t.Parallel()
	name := func(i int) string { return "T" + strconv.Itoa(max(i, 0)) }
	typ := func(name, field string) string { return "type " + name + " struct{" + field + "};" }
	for i, c := range []struct {
		one  func(i int) string
		last func(types int) string
		e    api.Errno
		doc  int // where, if it is at the name of the document's first type
	}{
		{func(i int) string { return typ(name(i), "a "+name(i+1)) }, func(n int) string { return typ(name(n), "") }, api.OK, -1},
		{func(i int) string { return typ(name(i), "a "+name(i+1)) }, func(n int) string { return typ(name(n), "a "+name(n)) }, api.ErrCycle, 8},
		{func(i int) string { return typ(name(i), "a "+name(i+1)) }, func(n int) string { return typ(name(n), "a T0") }, api.ErrCycle, 0},
		{func(i int) string { return typ(name(i), "a "+name(i+1)) }, func(n int) string { return typ(name(n), "a int;b U") }, api.ErrBound, -1},
		{func(i int) string { return typ(name(i), "a U;b U;c U") }, func(int) string { return typ("U", "a int") }, api.OK, -1},
		{func(i int) string { return typ(name(i), "a U;b U;c "+name(i/2)) }, func(int) string { return typ("U", "a T0") }, api.ErrCycle, 0},
		{func(i int) string { return typ(name(i), "a "+name(i+1)+";b "+name(i+2)) }, func(n int) string { return typ(name(n), "") + typ(name(n+1), "") }, api.ErrLong, 0},
	} {
		docs, types := big(8, c.one)
		docs = append(docs, api.Doc{URI: "file:///p/b.go", Text: "package p; " + c.last(types)})
		p := program(t, docs)
		ts, f := Make(p)
		if f.E != c.e || c.doc >= 0 && f != (api.Fault{Doc: c.doc, At: 16, E: c.e}) {
			t.Errorf("%d: %v", i, f)
		}
		x := Type{Struct, "p", "T0"}
		if ts != nil && (!ts.Fits(x, ts.Zero(x)) || ts.Size(x) != leaves(ts.Zero(x))) {
			t.Errorf("%d: the size %d", i, ts.Size(x))
		}
	}
}
