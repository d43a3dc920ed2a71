package scope

import (
	"strconv"
	"strings"
	"testing"

	"emend/api"
)

// told tells of documents of which Make tells another fault than that one: where ^ stands, if it stands somewhere. Each
// text but the first begins a document behind @ and its directory and file.
func told(t *testing.T, e api.Errno, text string) {
	t.Helper()
	var docs []api.Doc
	want := api.Fault{E: e}
	for i, part := range strings.Split("p/a "+text, "@") {
		name, text, _ := strings.Cut(part, " ")
		if at := strings.IndexByte(text, '^'); at >= 0 {
			want.Doc, want.At = i, at
		}
		docs = append(docs, api.Doc{URI: "file:///" + name + ".go", Text: strings.Replace(text, "^", "", 1)})
	}
	p, f := Make(docs)
	if f != want || (p != nil) != (e == api.OK) {
		t.Errorf("Make: %v, not %v, of %s", f, want, text)
	}
	check(t, docs)
}

// TestWorkspace: P13.1, which documents are a workspace.
func TestWorkspace(t *testing.T) {
	t.Parallel()
	long := strings.Repeat("n", 40)
	for _, c := range []struct {
		uris string
		e    api.Errno
	}{
		{"", api.OK},
		{"file:///p/a.go", api.OK},
		{"file:///p/Z.go file:///p/_a.go file:///p/a.go file:///p/a1.go file:///p/aa.go", api.OK},
		{"file:///p/z.go file:///p1/a.go file:///p_/a.go file:///pa/a.go", api.OK},
		{"file:///" + long + "/" + long + ".go", api.OK},
		{"file:///p/for.go", api.OK},
		{"file:///p/b.go file:///p/a.go", api.ErrArg},
		{"file:///p/a.go file:///p/a.go", api.ErrArg},
		{"file:///p/a.go file:///p/b.go file:///p/b.go", api.ErrArg},
		{"file:///p/a.go file:///p/c.go file:///p/b.go", api.ErrArg},
		{"file:///p1/a.go file:///p/a.go", api.ErrArg},
		{"file:///p/a.go file:///p/Z.go", api.ErrArg},
		{"file:///p/a.go file:///p/b", api.ErrArg},
		{"file:///for/a.go file:///p/b.go", api.ErrArg},
		{"file:///_/a.go", api.ErrArg},
		{"file:///p/_.go", api.ErrArg},
		{"file:///p/q/a.go", api.ErrArg},
		{"file:///" + long + "n/a.go", api.ErrArg},
		{"p", api.ErrArg},
	} {
		var docs, spoilt []api.Doc
		for i, uri := range strings.Fields(c.uris) {
			dir, _, _ := strings.Cut(strings.TrimPrefix(uri, "file:///"), "/")
			docs = append(docs, api.Doc{URI: uri, Text: "package " + dir, Version: int64(-i)})
			spoilt = append(spoilt, api.Doc{URI: uri, Text: "\xff"})
		}
		p, f := Make(docs)
		if f != (api.Fault{E: c.e}) || (p != nil) != (c.e == api.OK) {
			t.Errorf("Make of %s: %v", c.uris, f)
		}
		check(t, docs)
		if _, f := Make(spoilt); c.e == api.ErrArg && f != (api.Fault{E: api.ErrArg}) || c.e == api.OK && len(docs) > 0 && f.E != api.ErrUtf {
			t.Errorf("Make of %s, of no texts: %v", c.uris, f)
		}
		check(t, spoilt)
	}
	if p, f := Make([]api.Doc{{Text: "package p"}}); p != nil || f != (api.Fault{E: api.ErrArg}) {
		t.Errorf("Make of a document without a URI: %v", f)
	}
}

// TestManyDocuments: P13.1 names no bound of how many documents a workspace has.
func TestManyDocuments(t *testing.T) {
	t.Parallel()
	var docs []api.Doc
	for i := range 100 {
		docs = append(docs, api.Doc{URI: "file:///p/a" + strconv.Itoa(100+i) + ".go", Text: "package p; func f" + strconv.Itoa(i) + "() { f99() }"})
	}
	m, f := check(t, docs)
	if f.E != api.OK || len(m.uses) != 100 || !m.uses[0].Is {
		t.Errorf("%v", f)
	}
}

// TestParse: P13.1, the first document that has no tree, whatever other faults there are.
func TestParse(t *testing.T) {
	t.Parallel()
	told(t, api.ErrForm, "package p; func f() { }^}")
	told(t, api.ErrForm, "^")
	told(t, api.ErrUtf, "package p; ^\xff")
	told(t, api.ErrName, "package p; import ^\"1\"")
	told(t, api.ErrName, "package p; func ^_() {}")
	told(t, api.ErrLong, "package p; func f() { return "+strings.Repeat("-", 60)+"^1 }")
	told(t, api.ErrForm, "package p; func f() { x ^}@p/b package p; ]@p/c \xff")
	told(t, api.ErrForm, "package p@p/b package p; ^]")
	told(t, api.ErrForm, "package q; import \"none\"; type T struct { a int; a int }@p/b package p; ^]")
	told(t, api.ErrUtf, "package p; func f() { }; func f() { }@q/a ^\x80")
	told(t, api.ErrLong, "package p@p/b "+strings.Repeat(" ", 65536)+"^ ")
}

// TestImportFaults: P13.1, packages' names and imports, ahead of all that is declared twice.
func TestImportFaults(t *testing.T) {
	t.Parallel()
	q, r := "@q/a package q", "@r/a package r"
	told(t, api.ErrName, "package ^q")
	told(t, api.ErrName, "package ^P")
	told(t, api.ErrName, "package ^q; import \"none\"")
	told(t, api.ErrName, "package p; func f() {}; func f() {}@p/b package ^q; func f() {}")
	told(t, api.ErrName, "package p"+"@q/a package ^p; import \"p\"")
	told(t, api.ErrBound, "package p; import ^\"q\"")
	told(t, api.ErrBound, "package p; import ^\"q\"; import \"q\"")
	told(t, api.ErrBound, "package p; import \"q\"; import ^\"P\""+q)
	told(t, api.ErrBound, "package p; import ^\"q\"@p/b package q")
	told(t, api.ErrBound, "package p; import \"q\"@q/a package q; import ^\"none\"")
	told(t, api.ErrBound, "package p; import ^\"none\"; import \"p\"; func f() {}; func f() {}")
	told(t, api.ErrTwice, "package p; import \"q\"; import ^\"q\""+q)
	told(t, api.ErrTwice, "package p; import \"q\"; import \"r\"; import ^\"\\x71\"; import \"r\""+q+r)
	told(t, api.OK, "package p; import \"q\"@p/b package p; import \"q\""+q)
	told(t, api.OK, "package p; import \"q\"; import \"r\"@q/a package q; import \"r\""+r)
	told(t, api.ErrCycle, "package p; import ^\"p\"")
	told(t, api.ErrCycle, "package p@p/b package p; import ^\"p\"")
	told(t, api.ErrCycle, "package p; import ^\"q\"@q/a package q; import \"p\"")
	told(t, api.ErrCycle, "package p; import \"r\"; import ^\"q\"@q/a package q@q/b package q; import \"r\"; import \"p\""+r)
	told(t, api.ErrCycle, "package p; import ^\"q\"@q/a package q; import \"r\"@r/a package r; import \"s\"@s/a package s; import \"p\"")
	told(t, api.ErrCycle, "package p; import \"q\"@q/a package q; import ^\"r\"@r/a package r; import \"q\"")
	told(t, api.ErrCycle, "package p; import \"q\"@q/a package q; import ^\"q\"")
	told(t, api.OK, "package p; import \"q\"; import \"r\"@q/a package q; import \"s\"@r/a package r; import \"s\"@s/a package s")
	told(t, api.ErrName, "package ^a; import \"q\"; import \"q\""+q)
	told(t, api.ErrTwice, "package p; import \"q\"; import ^\"q\"; import \"p\"; import \"none\""+q)
	told(t, api.ErrCycle, "package p; import ^\"p\"; import \"p\"")
}

// TestTwicePackages: P13.1, of types, functions, imports and members, the one behind another one of its name.
func TestTwicePackages(t *testing.T) {
	t.Parallel()
	q := "@q/a package q; func f() {}"
	for _, text := range []string{
		"type T struct {}; type ^T struct {}",
		"type T struct {}; func ^T() {}",
		"func T() {}; type ^T struct {}",
		"func f() {}; func g() {}; func ^f() {}; func g() {}; func f() {}",
		"func f() {}@p/b package p; func ^f() {}",
		"func f() {}@p/b package p; func g() {}@p/c package p; type g2 struct {}; type ^g struct {}",
		"import \"q\"; func ^q() {}" + q,
		"import \"q\"; type ^q struct {}" + q,
		"import \"q\"@p/b package p; type ^q struct {}" + q,
		"func q() {}@p/b package p; import ^\"q\"" + q,
		"func q() {}@p/b package p; import ^\"q\"; func q() {}" + q,
		"import \"q\"@p/b package p; import \"q\"; func ^q() {}" + q,
		"type T struct { a int; b int; ^a int }",
		"type T struct { a int }; func (t T) ^a() {}",
		"func (t T) a() {}; type T struct { b int; ^a int }",
		"func (t T) a() {}; func (t T) ^a() {}",
		"func (t T) a() {}; func (s T) b() {}; func (r T) ^a() {}",
		"func (t T) a() {}@p/b package p; type T struct { ^a int }",
		"func (t T) a() {}@p/b package p; type T struct { }; func (t T) ^a() {}",
		"type T struct { a int }; type ^T struct { a int }",
		"func (t T) a() {}; func (u U) a() {}; type T struct { b int; c int; ^b int; a int }",
	} {
		told(t, api.ErrTwice, "package p; "+text)
	}
	for _, text := range []string{
		"type T struct { T int }; func (t T) f() {}; func f() {}",
		"type T struct { a int }; type U struct { a int }; func (t T) b() {}; func (t U) b() {}",
		"import \"q\"; func f() {}; func g() {}; type T struct { q int }; func (t T) f() {}" + q,
		"import \"q\"@p/b package p; import \"q\"" + q,
		"func f() {}" + q,
		"func (t T) a() {}@q/a package q; func (t T) a() {}",
		"func q() {}@q/a package q@r/a package r; import \"q\"",
		"func f(f int) {}; func (f f) f() {}",
		"import \"q\"; func (q q) q(a q) { a.q = q }" + q,
	} {
		told(t, api.OK, "package p; "+text)
	}
}

// TestTwiceBlocks: P13.1, of variables and params of one block, and of labels of one function.
func TestTwiceBlocks(t *testing.T) {
	t.Parallel()
	for _, text := range []string{
		"func f() { a := 1; ^a := 2 }",
		"func f() { a := 1; var ^a int }",
		"func f() { var a int; b := 1; var ^a = 2; b := 1 }",
		"func f(a int) { var ^a int }",
		"func f(a int, ^a bool) { a := 1 }",
		"func (t T) f(^t int) { }",
		"func (t T) f(a int) { ^t := 1 }",
		"func f(a int) { { a := 1; a = 2; ^a := a } }",
		"func f() { if true { a := 1 } else { a := 1; ^a := 2 } }",
		"func f() { for { a := 1; ^a := 2 } }",
		"func f() { for a := 1;; { }; b := 1; ^b := 2 }",
		"func f() { a := 1; { a := 2; { a := 3 } }; ^a := 4 }",
		"func f() { x: for {}; ^x: for {} }",
		"func f() { x: for { { ^x: for {} } } }",
		"func f() { y: for { x: for {} }; if true { ^x: for {} }; y: for {} }",
		"func f() { a := 1; { a := 2; x: for {}; ^x: for {} }; a := 3 }",
		"func f() { a := 1; ^a := 2 }@p/b package p; func f() {}",
		"func f() { }@p/b package p; func g() { a := 1; ^a := 2 }; func f() {}",
		"func f() { a := 1 }; func ^f() { a := 1; a := 1 }",
	} {
		told(t, api.ErrTwice, "package p; "+text)
	}
	for _, text := range []string{
		"func f(a int) { { a := 1; { a := 2 } }; { a := 3 } }",
		"func f() { for a := 1;; { a := 2 }; for a := 1;; { }; a := 1 }",
		"func f() { a := 1; for a := 1;; { for a := 2;; { } } }",
		"func f() { if true { a := 1 } else if true { a := 1 } else { a := 1 }; a := 1 }",
		"func f() { x: for {} }; func g() { x: for {} }; func (t T) f() { x: for {} }",
		"func f(x int) { x: for x := 1;; { x := 1 }; f := 1 }",
		"func f(a int) { }; func g(a int) { }",
		"func f() { a := 1 }@p/b package p; func g() { a := 1 }",
	} {
		told(t, api.OK, "package p; "+text)
	}
}

// TestExamples: the chapter's.
func TestExamples(t *testing.T) {
	t.Parallel()
	stands(t, "func f(a<=1> int) int { b<=2> := a<1>; { a<=3> := b<2>; return a<3> }; return a<1> }")
	told(t, api.ErrTwice, "package p; func f() { a := 1; ^a := 2 }")
	told(t, api.ErrTwice, "package p; func f(a int) { var ^a int }")
	told(t, api.ErrBound, "package p; import ^\"q\"")
	stands(t, "func f() { x<=1>: for { break x<1> } ; break x<0> }")
	told(t, api.ErrTwice, "package p; type T struct { a int }; func (t T) ^a() {}")
}
