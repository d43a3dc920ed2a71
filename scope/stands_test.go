package scope

import (
	"maps"
	"regexp"
	"slices"
	"testing"

	"emend/api"
)

// Behind a name, or a STRING, of a marked text stands a mark: <=1> where what is called 1 is declared, <1> where a plain
// name stands for it, <0> where one stands for nothing. A name without a mark is no plain one.

var markForm = regexp.MustCompile(`("[^"]*"|[A-Za-z0-9_]+)<(=?)([0-9]+)>`)

// marked are the documents of marked texts, and the places of the plain names, and of what they stand for: [-1 -1] of none.
func marked(texts map[string]string) (docs []api.Doc, want map[[2]int][2]int) {
	declared, uses := map[string][2]int{"0": {-1, -1}}, map[[2]int]string{}
	for i, uri := range slices.Sorted(maps.Keys(texts)) {
		text, cut := texts[uri], 0
		for _, l := range markForm.FindAllStringSubmatchIndex(text, -1) {
			place, called := [2]int{i, l[0] - cut}, text[l[6]:l[7]]
			if l[4] < l[5] {
				declared[called] = place
			} else {
				uses[place] = called
			}
			cut += l[1] - l[3]
		}
		docs = append(docs, api.Doc{URI: uri, Text: markForm.ReplaceAllString(text, "$1"), Version: int64(i)})
	}
	want = map[[2]int][2]int{}
	for place, called := range uses {
		want[place] = declared[called]
	}
	return docs, want
}

// stands tells of a marked text, behind the clause of package p, whose names do not stand for what is marked.
func stands(t *testing.T, text string) {
	t.Helper()
	standIn(t, map[string]string{"file:///p/a.go": "package p; " + text})
}

// standIn does so of some documents.
func standIn(t *testing.T, texts map[string]string) {
	t.Helper()
	docs, want := marked(texts)
	m, f := check(t, docs)
	if f.E != api.OK {
		t.Errorf("Make: %v of %v", f, texts)
		return
	}
	got := map[[2]int][2]int{}
	for _, u := range m.uses {
		got[[2]int{u.Doc, u.At}] = [2]int{-1, -1}
		if u.Is {
			got[[2]int{u.Doc, u.At}] = [2]int{u.Decl.Doc, u.Decl.At}
		}
	}
	if !maps.Equal(got, want) {
		t.Errorf("names of %v: %v, not %v", texts, got, want)
	}
}

// TestVariables: P13.3, variables and params: the innermost block's, from their statement's end on.
func TestVariables(t *testing.T) {
	t.Parallel()
	for _, text := range []string{
		"func f(a<=1> int) int { b<=2> := a<1>; { a<=3> := b<2>; return a<3> }; return a<1> }",
		"func f() { a<0> = 1; a<=1> := a<0>; a<1> = a<1> }",
		"func f() { var a<=1> int; var b<=2> int = a<1>; var c<=3> = b<2>; c<3> = 1 }",
		"func f() { a<=1> := 1; { a<=2> := a<1> + a<1>; a<2> = 1 }; a<1> = 1 }",
		"func f() { a<=1> := 1; { a<1> = 1; var a<=2> int; a<2> = 1; { a<2> = 1; a<=3> := a<2>; a<3> = 1 }; a<2> = 1 }; a<1> = 1 }",
		"func f() { { a<=1> := 1; a<1> = 1 }; a<0> = 1 }; func g() { a<0> = 1 }",
		"func f() { { a<=1> := 1; a<1> = 1 }; { a<=2> := 1; a<2> = 1 } }",
		"func f(a<=1> int) { if a<1> { a<=2> := a<1>; a<2> = 1 } else if a<1> { a<1> = 2; a<=3> := 3; a<3> = 3 } else { a<1> = 1 } }",
		"func f(a<=1> int) { { a<=2> := a<1>; a<2> = a<2> }; a<1> = 1 }",
		"func f() { a<=1> := a<0>; if a<1> { a<1> = 1 }; b<=2> := a<1>; a<1> = b<2> }",
	} {
		stands(t, text)
	}
}

// TestLoops: P13.3, a for's first variable is known in all of the for, and its block is one within.
func TestLoops(t *testing.T) {
	t.Parallel()
	for _, text := range []string{
		"func f() { for a<=1> := a<0>; a<1>; a<1> = a<1> { a<1> = 1 }; a<0> = 1 }",
		"func f() { for a<=1> := 1;; { a<=2> := a<1>; a<2> = 1 } }",
		"func f() { for a<=1> := 1; a<1>; a<1> = 2 { var a<=2> = a<1>; a<2> = 1 } }",
		"func f<=3>(a<=1> int) { for a<=2> := a<1>; a<2>; f<3>(a<2>) { }; a<1> = 1 }",
		"func f(a<=1> int) { for a<1> { a<=2> := a<1>; a<2> = 1 }; for ; a<1>; a<1> = 1 { a<=3> := a<1> }; for { a<1> = 1 } }",
		"func f(a<=1> int) { for a<1> = 1; a<1>; { a<=2> := a<1> }; a<1> = 1 }",
		"func f() { for a<=1> := 1;; { for a<=2> := a<1>;; { a<2> = 1 }; a<1> = 1 } }",
		"func f() { x: for a<=1> := 1; a<1>; a<1> = 1 { a<1> = 2 }; a<0> = 1 }",
	} {
		stands(t, text)
	}
}

// TestParams: P13.3, params and receivers are known in the function's block, and nowhere else.
func TestParams(t *testing.T) {
	t.Parallel()
	for _, text := range []string{
		"func f(a<=1> int, b<=2> bool) bool { a<1> = b<2>; return a<1> }; func g() { a<0> = b<0> }",
		"type T<=1> struct {}; func (t<=2> T<1>) f(a<=3> T<1>) T<1> { return t<2>.f(a<3>.t) }; func g() { t<0> = a<0> }",
		"type T<=1> struct {}; func f(T<=2> T<1>, a T<1>) T<1> { var b T<2>; return T<2> }",
		"type T<=1> struct {}; func (T<=2> T<1>) f(a T<1>) T<1> { return T<2>{a: T<2>} }",
		"func f<=1>(f<=2> f<1>) f<1> { return f<2>(f<2>) }",
		"func f<=1>(a<=2> a<0>, b a<0>) a<0> { f<1>(a<2>) }",
	} {
		stands(t, text)
	}
}

// TestTops: P13.3, types and functions, which are known in all of their package, and are hidden by variables.
func TestTops(t *testing.T) {
	t.Parallel()
	for _, text := range []string{
		"func f<=1>(a T<2>) { g<3>(); f<1>() }; type T<=2> struct { a T<2>; b U<0>; c int; d bool; e string; g float64 }; func g<=3>() { f<1>() }",
		"type T<=1> struct {}; func f() { var T<=2> T<1> = T<1>{}; T<2> = T<2>{}; { T<2>() } }",
		"func f<=1>() { f<=2> := f<1>(); f<2>() }; func g() { f<1>() }",
		"type T<=1> struct { T int }; func (a T<1>) U() { U<0>(); a2<0>.T = 1 }; func (a U<0>) T() {}",
		"type T<=1> struct { a int }; func f(t<=2> T<1>) int { t<2>.a = 1; t<2>.a.b = T<1>{a: t<2>.a, b: a<0>}.a; return (t<2>).a }",
		"func f() bool { print(a<0>, int(b<0>)); panic(len(c<0>)); d<0>.e.f = !g<0> && (h<0>) == -i<0>; return float64(j<0>) }",
	} {
		stands(t, text)
	}
	standIn(t, map[string]string{
		"file:///p/a.go": "package p; func f<=1>(a T<2>) { g<3>(); h<0>() }",
		"file:///p/b.go": "package p; type T<=2> struct { t T<2> }; func g<=3>() { f<1>() }",
		"file:///q/a.go": "package q; func h<=4>(a T<0>) { f<0>(); h<4>() }",
	})
}

// TestImports: P13.3, what is selected from an import, and what hides one.
func TestImports(t *testing.T) {
	t.Parallel()
	far := "package q; type T<=1> struct { a int }; func f<=2>() { f<2>() }; func (t T<1>) g() {}"
	for _, text := range []string{
		`import "q"<=3>; func g(a q<3>.T<1>) q<3>.T<1> { q<3>.f<2>(); return q<3>.T<1>{T: q<3>.T<1>} }`,
		`import "q"<=3>; type V struct { b q<3>.T<1>; c q<3>.g<0>; d q<3>.q<0>; e q<3> }`,
		`import "q"<=3>; func h() { q<3>.f<2> = q<3>.T<1>.a + q<3> + (q<3>).f + q<3>.h<0>().f + q<3>.f<2>.T }`,
		`import "q"<=3>; func g(q<=4> q<3>.T<1>) q<3>.T<1> { q<4>.f(); var x q<4>.T; return q<4>.T{T: q<4>} }`,
		`import "q"<=3>; func g() { q<=4> := q<3>.f<2>(); { q<4>.f() } }; func h() { q<3>.f<2>() }`,
		`import "q"<=3>; func g() { { q<=4> := 1 }; for q<=5> := q<3>.f<2>(); q<5>.f; { }; q<3>.T<1> = 1 }`,
		`import "q"<=3>; func g() { var q<=4> q<3>.T<1> = q<3>.T<1>{}; var r<=5> q<4>.T = q<4>.T{}; r<5>.T = 1 }`,
		`import "q"<=3>; func g(a<=4> int) { a<4>.q.f(); a<4>.q.T = q<3>.T<1>{q: a<4>.q.T}.f }`,
		`func g(a q<0>.T) { q<0>.f(); q<0>.T = q<0>.T{} }`,
		`import "\x71"<=3>; func g() { q<3>.f<2>(); x71<0>() }`,
	} {
		standIn(t, map[string]string{"file:///p/a.go": "package p; " + text, "file:///q/a.go": far})
	}
	standIn(t, map[string]string{
		"file:///p/a.go": `package p; import "q"<=1>; func f<=2>() { q<1>.g<3>() }`,
		"file:///p/b.go": `package p; func h() { q<0>.g(); f<2>() }`,
		"file:///q/a.go": `package q; func h() { g<3>(); p<0>.f() }`,
		"file:///q/b.go": `package q; func g<=3>() { f<0>() }`,
		"file:///r/a.go": `package r; import "p"<=4>; import "q"<=5>; func q2() { p<4>.f<2>(q<5>.g<3>, p<4>.q<0>, p<4>.g<0>) }`,
	})
}

// TestLabels: P13.3, labels stand for themselves alone, around what breaks and continues them.
func TestLabels(t *testing.T) {
	t.Parallel()
	for _, text := range []string{
		"func f() { x<=1>: for { break x<1> } ; break x<0> }",
		"func f() { continue x<0>; x<=1>: for { if a<0> { continue x<1> }; break; continue }; continue x<0> }",
		"func f() { x<=1>: for { y<=2>: for { break x<1>; continue y<2> }; break y<0>; for { break x<1>; { break x<1> } } } }",
		"func f() { x<=1>: for { break x<1> } }; func g() { x<=2>: for { continue x<2> } }; func h() { for { break x<0> } }",
		"func f<=4>() { f<=1>: for f<=2> := f<4>; f<2>; f<2> = f<2> { f<=3> := f<2>; break f<1>; f<3> = 1 }; f<4>() }",
		"func f(x<=1> int) { x<=2>: for x<1> { x<=3> := x<1>; break x<2>; x<3> = 1 }; { x<1> = 1 } }",
	} {
		stands(t, text)
	}
	standIn(t, map[string]string{
		"file:///p/a.go": `package p; import "q"<=1>; func g() { q<=2>: for { break q<2>; q<1>.f<3>() } }`,
		"file:///q/a.go": `package q; func f<=3>() { for { break f<0>; break q<0> } }`,
	})
}
