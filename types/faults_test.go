package types

import (
	"strconv"
	"strings"
	"testing"

	"emend/api"
)

// documents are those of a text: each but the first, which is p/a, begins behind @ and its directory and file.
func documents(text string) (docs []api.Doc) {
	for _, part := range strings.Split("p/a "+text, "@") {
		name, text, _ := strings.Cut(part, " ")
		docs = append(docs, api.Doc{URI: "file:///" + name + ".go", Text: text})
	}
	return docs
}

// told tells of documents of which Make tells another fault than that one: where ^ stands, if it stands somewhere.
func told(t *testing.T, e api.Errno, text string) {
	t.Helper()
	docs := documents(text)
	want := api.Fault{E: e}
	for i, doc := range docs {
		if at := strings.IndexByte(doc.Text, '^'); at >= 0 {
			want.Doc, want.At = i, at
			docs[i].Text = strings.Replace(doc.Text, "^", "", 1)
		}
	}
	if _, _, f := check(t, docs); f != want {
		t.Errorf("Make: %v, not %v, of %s", f, want, text)
	}
}

// q is a document of a package to import.
const q = "@q/b package q; type U struct { N int; m bool }; type u struct {}; func F() {}"

// TestNodeFaults: P14.1, of types of fields, params, receivers and results.
func TestNodeFaults(t *testing.T) {
	t.Parallel()
	told(t, api.OK, "package p")
	told(t, api.OK, `package p; import "q"; type T struct { a q.U; b T2 }; type T2 struct {}`+q)
	told(t, api.OK, `package p; import "q"; func (t T) f(a q.U, b T) q.U {}; type T struct {}; func (t T) g() T {}; func g(a int) {}`+q)
	told(t, api.OK, "package p; func f(f T, T T) T {}@p/b package p; type T struct {}")
	for _, c := range []struct {
		e    api.Errno
		node string
	}{
		{api.ErrBound, "^U"}, {api.ErrBound, "q.^V"}, {api.ErrBound, "^r.T"}, {api.ErrBound, "^Q.U"}, {api.ErrBound, "^N"},
		{api.ErrBound, "q.^N"}, {api.ErrBound, "q.^int_"}, {api.ErrBound, "^int_"}, {api.ErrBound, "^p.T"}, {api.ErrBound, "^r"},
		{api.ErrType, "^q"}, {api.ErrType, "^h"}, {api.ErrType, "^h.U"}, {api.ErrType, "^T.U"}, {api.ErrType, "q.^F"}, {api.ErrHidden, "q.^u"},
	} {
		begin := `package p; import "q"; type T struct { o int }; func h() {}; `
		for _, text := range []string{
			"type V struct { a " + c.node + " }",
			"type V struct { a int; b q.U; c " + c.node + " }",
			"func f(a " + c.node + ") {}",
			"func f(a int, b T, c " + c.node + ", d none) none {}",
			"func f() " + c.node + " {}",
			"func f(a int) " + c.node + " {}",
			"func (t T) f(a " + c.node + ") {}",
			"func (t T) f() " + c.node + " {}",
		} {
			told(t, c.e, begin+text+q)
			told(t, c.e, "package p@p/b "+begin+text+"; type X struct { a none }"+q)
		}
	}
	told(t, api.ErrBound, "package p; func (t ^T) g() {}")
	told(t, api.ErrBound, "package p; func (T ^T) g() {}")
	told(t, api.ErrType, "package p; func (t ^f) g() {}; func f() {}")
	told(t, api.ErrType, `package p; import "q"; func (t ^q) g(a none) none {}`+q)
	told(t, api.ErrBound, `package p; import "q"; func (t ^U) g(a none) {}`+q)
	told(t, api.ErrType, "package p; func f(g ^f) {}")
	told(t, api.ErrBound, `package p; import "q"@p/b package p; func f(a ^q.U) {}`+q)
	told(t, api.ErrBound, "package p; func f(a int, b ^a) {}")
}

// TestNoFaults: P14.1, what stands in functions' blocks has no fault of types.
func TestNoFaults(t *testing.T) {
	t.Parallel()
	for _, stmt := range []string{"var a T", "var a q.U", "x := T{}", "x := f{}", "return none", "var a f = g()"} {
		told(t, api.OK, "package p; func f() { "+stmt+" }")
	}
}

// TestCycles: P14.1, structs that lie in themselves.
func TestCycles(t *testing.T) {
	t.Parallel()
	told(t, api.ErrCycle, "package p; type ^T struct { a T2 }; type T2 struct { b T }")
	told(t, api.ErrCycle, "package p; type ^T struct { a T }")
	told(t, api.ErrCycle, "package p; type ^T struct { a int; b U; c T }; type U struct {}")
	told(t, api.ErrCycle, "package p; type S struct { a T }; type ^T struct { a T2 }; type T2 struct { b T }")
	told(t, api.ErrCycle, "package p; type S struct { a T; b S2 }; type S2 struct { a T }; type ^T struct { a E; b T2 }; type T2 struct { b E; c T }; type E struct {}")
	told(t, api.ErrCycle, "package p; type S struct { a T; b S2 }; type ^S2 struct { a S3 }; type S3 struct { b S2 }; type T struct { a T }")
	told(t, api.ErrCycle, "package p; type ^A struct { a B }; type B struct { a C }; type C struct { a D; b B }; type D struct { a A }")
	told(t, api.ErrCycle, "package p; type ^A struct { a B; b C }; type B struct { a C }; type C struct { a A }")
	told(t, api.ErrCycle, "package p; type A struct { a B; b C }; type B struct {}; type ^C struct { a D; c B }; type D struct { a B; b C }")
	told(t, api.ErrCycle, "package p; type A struct { a B; b C }; type B struct { a D }; type C struct { a D }; type D struct { a E }; type ^E struct { a E }")
	told(t, api.ErrCycle, "package p; type T struct { a U }@p/b package p; type ^U struct { a V }; type V struct { a U }")
	told(t, api.ErrCycle, `package p; import "q"; type T struct { a q.U }@q/b package q; type ^U struct { a V }; type V struct { a U }`)
	told(t, api.OK, "package p; type A struct { a B; b C }; type B struct { a C; b C }; type C struct { a D }; type D struct {}; func (a A) f(b A) A {}")
	told(t, api.OK, `package p; import "q"; type T struct { a q.T }@q/b package q; type T struct {}`)
	told(t, api.ErrCycle, "package p; type ^T struct { a T; b none }")
	told(t, api.ErrBound, "package p; type S struct { b ^none }; type T struct { a T }")
	told(t, api.ErrCycle, "package p; type T struct {}; type ^U struct { a V }; type V struct { a U; b none }; func (t none) f() {}")
}

// rows is a struct of so many fields of a type, and some more text.
func rows(name string, n int, typ, more string) string {
	text := "type " + name + " struct { "
	for i := range n {
		text += "a" + strconv.Itoa(i) + " " + typ + "; "
	}
	return text + more + " }; "
}

// TestLong: P14.1, structs that are too great.
func TestLong(t *testing.T) {
	t.Parallel()
	told(t, api.OK, "package p; "+rows("T", 256, "int", ""))
	told(t, api.ErrLong, "package p; "+rows("^T", 257, "int", ""))
	told(t, api.OK, "package p; "+rows("T", 16, "U", "")+rows("U", 16, "E", "")+rows("E", 0, "", ""))
	told(t, api.ErrLong, "package p; "+rows("^T", 16, "U", "b E")+rows("U", 16, "E", "")+rows("E", 0, "", ""))
	told(t, api.ErrLong, "package p; "+rows("E", 0, "", "")+rows("U", 16, "E", "")+rows("^T", 16, "U", "b bool"))
	told(t, api.ErrLong, "package p; "+rows("^S", 1, "T", "")+rows("T", 257, "float64", ""))
	told(t, api.ErrLong, "package p; "+rows("T", 256, "string", "")+rows("^S", 1, "T", "b string"))
	told(t, api.ErrLong, "package p; "+rows("^T", 400, "bool", "")+rows("S", 1, "S", ""))
	told(t, api.ErrCycle, "package p; "+rows("^S", 1, "S", "")+rows("T", 400, "bool", ""))
	told(t, api.ErrLong, `package p; import "q"; type A struct { a q.T }; `+"@q/b package q; type ^B struct { a T; b int }; "+rows("T", 256, "int", ""))
	// Of those in which a fault stands, or that lie in themselves, that is told alone.
	told(t, api.ErrBound, "package p; "+rows("T", 400, "int", "b ^none"))
	told(t, api.ErrBound, "package p; "+rows("T", 400, "int", "b U")+rows("U", 1, "^none", ""))
	told(t, api.ErrBound, "package p; "+rows("T", 400, "int", "b U")+rows("U", 1, "V", "")+rows("V", 300, "int", "b ^none; c none"))
	told(t, api.ErrCycle, "package p; "+rows("T", 400, "int", "b U")+rows("^U", 1, "U", ""))
	told(t, api.ErrCycle, "package p; "+rows("T", 400, "int", "b S")+rows("S", 300, "int", "c U")+rows("^U", 1, "V", "")+rows("V", 1, "U", ""))
	told(t, api.ErrLong, "package p; "+rows("^T", 400, "int", "")+rows("U", 1, "none", "")+"func f(a T) none {}")
	told(t, api.ErrBound, "package p; func f(a ^none) {}; "+rows("T", 400, "int", ""))
	told(t, api.ErrCycle, "package p; "+rows("^T", 400, "int", "b T"))
	told(t, api.ErrHidden, `package p; import "q"; `+rows("T", 400, "int", "b q.^u")+q)
}

// TestDoubled: P14.1, sizes beyond all numbers of 64 bits, each of two of the one ahead.
func TestDoubled(t *testing.T) {
	t.Parallel()
	for _, n := range []int{8, 9, 64, 65, 66, 130, 500} {
		text, back, want := "package p", "", api.Fault{}
		for i := range n {
			name, before := "T"+strconv.Itoa(i), "T"+strconv.Itoa(i-1)
			if i == 0 {
				before = "int"
			}
			if i == 8 {
				want = api.Fault{At: len(text) + 7, E: api.ErrLong}
			}
			one := "; type " + name + " struct { a " + before + "; b " + before + " }"
			text, back = text+one, one+back
		}
		if _, f := Make(program(t, documents(text))); f != want {
			t.Errorf("%d types: %v, not %v", n, f, want)
		}
		if n > 8 {
			want.At = 16
		}
		ts, f := Make(program(t, documents("package p"+back)))
		if f != want {
			t.Errorf("%d types, the last one first: %v, not %v", n, f, want)
		}
		if n == 8 && ts.Size(Type{Struct, "p", "T7"}) != MostSize {
			t.Errorf("Size of T7: %d", ts.Size(Type{Struct, "p", "T7"}))
		}
	}
}

// TestNothing: P14.1, of no program.
func TestNothing(t *testing.T) {
	t.Parallel()
	if ts, f := Make(nil); ts != nil || f != (api.Fault{E: api.ErrNil}) {
		t.Errorf("Make of nil: %v", f)
	}
	ts, f := Make(program(t, nil))
	if ts == nil || f != (api.Fault{}) || ts.Size(Type{Kind: Int}) != 1 {
		t.Errorf("Make of a program without documents: %v", f)
	}
}
