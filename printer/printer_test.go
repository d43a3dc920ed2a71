package printer

import (
	"math/rand"
	"reflect"
	"slices"
	"strings"
	"testing"

	"emend/api"
	"emend/ast"
	"emend/parser"
)

var none = api.Node{}

// node is a tree without places.
func node(kind int, name string, kids ...api.Node) api.Node {
	return api.Node{Kind: kind, Name: name, Kids: kids}
}

func ident(name string) api.Node    { return node(api.NIdent, name) }
func typeName(name string) api.Node { return node(api.NTypeName, name) }
func block(l ...api.Node) api.Node  { return node(api.NBlock, "", l...) }

// file is the file p of some declarations.
func file(l ...api.Node) api.Node { return node(api.NFile, "p", l...) }

// funcOf is func f() of some statements.
func funcOf(l ...api.Node) api.Node {
	return node(api.NFunc, "f", none, node(api.NParams, ""), none, block(l...))
}

// short is a text, or what it begins with.
func short(s string) string { return s[:min(len(s), 400)] }

// shown is a chapter's way of writing a text: a byte 10 as /, a tab as >.
func shown(s string) string { return strings.NewReplacer("\n", "/", "\t", ">").Replace(s) }

// deepCopy is a tree in memory of its own, its empty lists nil.
func deepCopy(n api.Node) api.Node {
	var kids []api.Node
	for _, kid := range n.Kids {
		kids = append(kids, deepCopy(kid))
	}
	n.Kids = kids
	return n
}

// check holds Text of a tree against the model, and the tree against what is read of its text (P12.1, P12.2).
func check(t *testing.T, n api.Node) (string, api.Errno) {
	t.Helper()
	s, e := Text(n)
	want, wantE := "", ast.Check(n)
	if wantE == api.OK {
		want = modelText(n)
	}
	if len(want) > 65536 {
		want, wantE = "", api.ErrLong
	}
	if s != want || e != wantE {
		t.Fatalf("Text: %q, %d, not %q, %d", short(s), e, short(want), wantE)
	}
	if e == api.OK {
		checkRead(t, s, n)
	}
	return s, e
}

// checkRead tells of a text that is not read as a tree.
func checkRead(t *testing.T, s string, n api.Node) {
	t.Helper()
	back, place, e := parser.Parse(s)
	if e != api.OK || !ast.Same(back, n) {
		t.Fatalf("Parse of %q: %d at %d, or another tree", short(s), e, place)
	}
}

// checkText tells of a tree whose text is not one that is told as the chapter shows it.
func checkText(t *testing.T, n api.Node, want string) {
	t.Helper()
	if s, e := check(t, n); e != api.OK || shown(s) != want {
		t.Errorf("Text: %s, %d, not %s", shown(s), e, want)
	}
}

// TestExamples: P12.1, the chapter's examples.
func TestExamples(t *testing.T) {
	t.Parallel()
	a, b := ident("a"), ident("b")
	checkText(t, file(), "package p/")
	fields := []api.Node{node(api.NField, "a", typeName("int")), node(api.NField, "b", node(api.NTypeSel, "U", ident("geo")))}
	checkText(t, file(node(api.NImport, "geo"), node(api.NType, "T", fields...)),
		`package p/import "geo"/type T struct {/>a int/>b geo.U/}/`)
	params := node(api.NParams, "", node(api.NParam, "a", typeName("int")), node(api.NParam, "b", typeName("bool")))
	sum := node(api.NReturn, "", node(api.NBinary, "+", a, node(api.NInt, "1")))
	checkText(t, file(node(api.NFunc, "f", node(api.NParam, "t", typeName("T")), params, typeName("int"), block(sum))),
		"package p/func (t T) f(a int, b bool) int {/>return a + 1/}/")
	call := node(api.NCallStmt, "", node(api.NCall, "", ident("f")))
	label := node(api.NLabel, "L", node(api.NFor, "", none, a, call, block(node(api.NBreak, "L"))))
	other := node(api.NIf, "", node(api.NUnary, "!", b), block(label), none)
	checkText(t, file(funcOf(node(api.NIf, "", a, block(), other))),
		"package p/func f() {/>if a {/>} else if !b {/>>L: for ; a; f() {/>>>break L/>>}/>}/}/")
	define := node(api.NDefine, "x", node(api.NInt, "1"))
	checkText(t, file(funcOf(node(api.NFor, "", none, none, none, block()), node(api.NFor, "", none, a, none, block()),
		node(api.NFor, "", define, none, none, block()))),
		"package p/func f() {/>for {/>}/>for a {/>}/>for x := 1;; {/>}/}/")
	minus := node(api.NKeyed, "a", node(api.NUnary, "-", node(api.NInt, "1")))
	two := node(api.NKeyed, "b", node(api.NParen, "", node(api.NInt, "2")))
	checkText(t, file(funcOf(node(api.NVar, "x", typeName("T"), node(api.NLit, "", typeName("T"), minus, two)))),
		"package p/func f() {/>var x T = T{a: -1, b: (2)}/}/")
}

// read is the tree of a text that the parser reads.
func read(t *testing.T, text string) api.Node {
	t.Helper()
	n, place, e := parser.Parse(text)
	if e != api.OK {
		t.Fatalf("Parse(%q): %d at %d", short(text), e, place)
	}
	return n
}

// TestDecls: P12.1 and P12.3, each form of what stands in a file.
func TestDecls(t *testing.T) {
	t.Parallel()
	for _, c := range []struct{ decls, want string }{
		{"", ""},
		{`import "a"; import "\x61b"`, `import "a"/import "ab"/`},
		{"type T struct {}", "type T struct {/}/"},
		{"type T struct { a int; }; type U struct { b bool; c string\n d float64; e T; f q.U }",
			"type T struct {/>a int/}/type U struct {/>b bool/>c string/>d float64/>e T/>f q.U/}/"},
		{"func f() {}", "func f() {/}/"},
		{"func f(a int) {}", "func f(a int) {/}/"},
		{"func f(a q.T,b T,c int) {}", "func f(a q.T, b T, c int) {/}/"},
		{"func f() q.T {}", "func f() q.T {/}/"},
		{"func f() float64 {}", "func f() float64 {/}/"},
		{"func(t T)f(){}", "func (t T) f() {/}/"},
		{"func (t T) f(a T) T { return a }; func g() { { {} } }", "func (t T) f(a T) T {/>return a/}/func g() {/>{/>>{/>>}/>}/}/"},
	} {
		checkText(t, read(t, "package p; "+c.decls+"\n"), "package p/"+c.want)
	}
	checkText(t, read(t, "// c\npackage packages"), "package packages/")
}

// TestStmts: P12.1 and P12.3, each form of a statement.
func TestStmts(t *testing.T) {
	t.Parallel()
	for _, c := range []struct{ stmts, want string }{
		{"var x int", "var x int"}, {"var x=1", "var x = 1"}, {"var x q.T=y", "var x q.T = y"},
		{"x:=1", "x := 1"}, {"x=1", "x = 1"}, {"a.b.c=1", "a.b.c = 1"},
		{"{}", "{/>}"}, {"{ x = 1; y = 2; }; z = 3", "{/>>x = 1/>>y = 2/>}/>z = 3"},
		{"if a {}", "if a {/>}"}, {"if a {} else {}", "if a {/>} else {/>}"},
		{"if a { return } else if b { return } else { return }", "if a {/>>return/>} else if b {/>>return/>} else {/>>return/>}"},
		{"if a { if b {} else {} }", "if a {/>>if b {/>>} else {/>>}/>}"},
		{"if (T{}) == f(T{}) {}", "if (T{}) == f(T{}) {/>}"},
		{"for {}", "for {/>}"}, {"for ;; {}", "for {/>}"},
		{"for a {}", "for a {/>}"}, {"for ; a ; {}", "for a {/>}"},
		{"for x := 1;; {}", "for x := 1;; {/>}"}, {"for x = 1;; {}", "for x = 1;; {/>}"}, {"for f();; {}", "for f();; {/>}"},
		{"for ;;x = 1 {}", "for ;; x = 1 {/>}"}, {"for ;;f() {}", "for ;; f() {/>}"},
		{"for ;a;f() {}", "for ; a; f() {/>}"}, {"for f();a; {}", "for f(); a; {/>}"}, {"for f();;g() {}", "for f();; g() {/>}"},
		{"for f();a;g() { x = 1 }", "for f(); a; g() {/>>x = 1/>}"},
		{"L:for{}", "L: for {/>}"}, {"L: for x.f();; { M: for a { continue M } }", "L: for x.f();; {/>>M: for a {/>>>continue M/>>}/>}"},
		{"break", "break"}, {"break L", "break L"}, {"continue", "continue"}, {"continue L", "continue L"},
		{"return", "return"}, {"return T{}", "return T{}"},
		{"f(1,2)", "f(1, 2)"}, {"print()", "print()"}, {"panic(x)", "panic(x)"}, {"T{}.f()", "T{}.f()"}, {`"s".f()`, `"s".f()`},
	} {
		checkText(t, read(t, "package p; func f() { "+c.stmts+" }"), "package p/func f() {/>"+c.want+"/}/")
	}
}

// TestExprs: P12.1 and P12.3, each form of an expression.
func TestExprs(t *testing.T) {
	t.Parallel()
	for _, c := range []struct{ e, want string }{
		{"0", "0"}, {"1.5e+03", "1.5e+03"}, {`"a\x0a b"`, `"a\x0a b"`}, {"true", "true"}, {"false", "false"}, {"x", "x"},
		{"a . b . c", "a.b.c"}, {"1 .x", "1.x"}, {"1.5.e5", "1.5.e5"}, {"true.x", "true.x"},
		{"f()", "f()"}, {"f( 1 )", "f(1)"}, {"f(1,g(2,x),3)", "f(1, g(2, x), 3)"}, {"a.f(b).g()", "a.f(b).g()"},
		{"len(x)", "len(x)"}, {"int()", "int()"}, {"float64(1,2)", "float64(1, 2)"}, {"panic(x).f", "panic(x).f"},
		{"T{}", "T{}"}, {"q . T { }", "q.T{}"}, {"T{a:1}", "T{a: 1}"}, {"T{a:1,b:U{c:x},d:y}.d", "T{a: 1, b: U{c: x}, d: y}.d"},
		{"-x", "-x"}, {"- -!x", "--!x"}, {"a- -b", "a - -b"}, {"-a.b", "-a.b"},
		{"a||b&&c==d", "a || b && c == d"}, {"a!=b", "a != b"}, {"a<b", "a < b"}, {"a<=b", "a <= b"}, {"a>b", "a > b"}, {"a>=b", "a >= b"},
		{"a+b-c", "a + b - c"}, {"a*b/c%d", "a * b / c % d"}, {"a-(b-c)", "a - (b - c)"}, {"((a))", "((a))"}, {"-(-a)", "-(-a)"},
	} {
		checkText(t, read(t, "package p; func f() { return "+c.e+" }"), "package p/func f() {/>return "+c.want+"/}/")
	}
}

// TestTrees: P12.1 and P12.2, trees that a short rule makes, with places that tell nothing.
func TestTrees(t *testing.T) {
	t.Parallel()
	r := rand.New(rand.NewSource(121))
	met := map[int]int{}
	for range 6000 {
		n := maker{r}.file(1 + r.Intn(6))
		s, e := check(t, n)
		if e != api.OK {
			t.Fatalf("a tree that is none: %d", e)
		}
		for m := range ast.Each(n) {
			met[m.Kind]++
		}
		if again, e := Text(scattered(r, n)); e != api.OK || again != s {
			t.Fatalf("Text of the same tree at other places: %q, %d, not %q", short(again), e, short(s))
		}
	}
	for kind := api.NFile; kind <= api.NParen; kind++ {
		if met[kind] < 100 {
			t.Errorf("%d nodes of kind %d", met[kind], kind)
		}
	}
}

// scattered is a tree with any places, nothing's and what has no children too.
func scattered(r *rand.Rand, n api.Node) api.Node {
	n.From, n.At, n.To = r.Intn(200)-100, r.Intn(200)-100, r.Intn(200)-100
	kids := make([]api.Node, 0, len(n.Kids)+1)
	for _, kid := range n.Kids {
		kids = append(kids, scattered(r, kid))
	}
	n.Kids = kids
	return n
}

// TestOthers: P12.2, trees that are not the same have other texts.
func TestOthers(t *testing.T) {
	t.Parallel()
	r := rand.New(rand.NewSource(122))
	by := map[string]api.Node{}
	again := 0
	for range 30000 {
		n := maker{r}.file(1 + r.Intn(2))
		s, e := Text(n)
		if e != api.OK {
			t.Fatalf("Text: %d", e)
		}
		if m, ok := by[s]; ok {
			again++
			if !ast.Same(m, n) {
				t.Fatalf("two trees of one text: %q", s)
			}
		}
		by[s] = n
	}
	if again < 500 || len(by) < 500 {
		t.Errorf("%d texts, %d again", len(by), again)
	}
}

// TestErrors: P12.1, what Check tells is told.
func TestErrors(t *testing.T) {
	t.Parallel()
	for _, c := range []struct {
		what string
		n    api.Node
		want api.Errno
	}{
		{"nothing", none, api.ErrForm},
		{"a block", block(), api.ErrForm},
		{"a function", funcOf(), api.ErrForm},
		{"a file without a name", node(api.NFile, ""), api.ErrForm},
		{"a file of a file", file(file()), api.ErrForm},
		{"a file of nothing", file(none), api.ErrForm},
		{"a function without children", file(node(api.NFunc, "f")), api.ErrForm},
		{"an import behind a type", file(node(api.NType, "T"), node(api.NImport, "q")), api.ErrForm},
		{"an if without else", file(funcOf(node(api.NIf, "", ident("a"), block()))), api.ErrForm},
		{"a return of nothing", file(funcOf(node(api.NReturn, "", none))), api.ErrForm},
		{"a var of nothing", file(funcOf(node(api.NVar, "x", none, none))), api.ErrForm},
		{"a call of nothing", file(funcOf(node(api.NCallStmt, "", node(api.NCall, "")))), api.ErrForm},
		{"a literal in a head", file(funcOf(node(api.NIf, "", node(api.NLit, "", typeName("T")), block(), none))), api.ErrForm},
		{"a string with a line's end", file(funcOf(node(api.NReturn, "", node(api.NString, "\"\n\"")))), api.ErrForm},
		{"a sum under a product", file(funcOf(node(api.NReturn, "", node(api.NBinary, "*",
			node(api.NBinary, "+", ident("a"), ident("a")), ident("a"))))), api.ErrForm},
		{"a kind that is none", node(99, "p"), api.ErrForm},
		{"a kind below 0", file(node(-1, "p")), api.ErrForm},
		{"a list that holds itself", endless(), api.ErrLong},
	} {
		if s, e := Text(c.n); s != "" || e != c.want {
			t.Errorf("Text of %s: %q, %d, not %d", c.what, s, e, c.want)
		}
	}
}

// endless is a node that stands in its own list.
func endless() api.Node {
	kids := make([]api.Node, 1)
	kids[0] = node(api.NBlock, "", kids...)
	return kids[0]
}

// nested is func f of so many blocks in one another, the function's own among them.
func nested(blocks int, inner ...api.Node) api.Node {
	n := funcOf(inner...)
	for range blocks - 1 {
		n.Kids[3] = block(n.Kids[3])
	}
	return n
}

// TestDepth: P12.1, trees of the greatest depth, and above it.
func TestDepth(t *testing.T) {
	t.Parallel()
	if s, e := check(t, file(nested(62))); e != api.OK || !strings.Contains(s, "\n"+strings.Repeat("\t", 61)+"{\n"+strings.Repeat("\t", 61)+"}\n") {
		t.Errorf("62 blocks: %d", e)
	}
	if s, e := check(t, file(nested(63))); e != api.ErrLong || s != "" {
		t.Errorf("63 blocks: %d", e)
	}
	// The depth is asked first, whatever the tree is made of.
	if _, e := check(t, file(nested(63), none)); e != api.ErrLong {
		t.Errorf("63 blocks, and nothing: %d", e)
	}
	deep := ident("x")
	for range 60 {
		deep = node(api.NParen, "", deep)
	}
	if _, e := check(t, file(funcOf(node(api.NIf, "", deep, block(), none)))); e != api.ErrLong {
		t.Errorf("60 brackets in an if: %d", e)
	}
	if _, e := check(t, file(funcOf(node(api.NIf, "", deep.Kids[0], block(), none)))); e != api.OK {
		t.Errorf("59 brackets in an if: %d", e)
	}
	chain := node(api.NIf, "", ident("x"), block(), none)
	for range 59 {
		chain = node(api.NIf, "", ident("x"), block(), chain)
	}
	if s, e := check(t, file(funcOf(chain))); e != api.OK || !strings.HasSuffix(s, "\n\t} else if x {\n\t}\n}\n") {
		t.Errorf("60 ifs: %d", e)
	}
}

// ofLength is a file of func f, of a text of so many bytes: calls of print fill it up.
func ofLength(t *testing.T, size int) api.Node {
	t.Helper()
	line := func(letters int) api.Node {
		return node(api.NCallStmt, "", node(api.NBuiltin, "print", node(api.NString, `"`+strings.Repeat("a", letters)+`"`)))
	}
	const around, ahead = len("package p\nfunc f() {\n}\n"), len("\n\tprint(\"\")")
	var l []api.Node
	left := size - around
	for left >= 2*(ahead+4000) {
		l = append(l, line(4000))
		left -= ahead + 4000
	}
	half := left / 2
	return file(funcOf(append(l, line(half-ahead), line(left-half-ahead))...))
}

// TestLength: P12.1, texts of 65536 bytes, and of more.
func TestLength(t *testing.T) {
	t.Parallel()
	for size := 65530; size <= 65545; size++ {
		n := ofLength(t, size)
		if got := len(modelText(n)); got != size {
			t.Fatalf("a text of %d bytes, not %d", got, size)
		}
		want := api.OK
		if size > 65536 {
			want = api.ErrLong
		}
		if s, e := check(t, n); e != want || e == api.OK && len(s) != size || e != api.OK && s != "" {
			t.Errorf("%d bytes: %d bytes, %d", size, len(s), e)
		}
	}
	// What is written behind what had no room is not told, were there room for it.
	n := ofLength(t, 65536)
	stmts := n.Kids[0].Kids[3].Kids
	stmts[len(stmts)-1].Kids[0].Kids[0].Name = `"` + strings.Repeat("a", 4096) + `"`
	if s, e := check(t, n); e != api.ErrLong || s != "" {
		t.Errorf("a long string at the end: %d", e)
	}
	// Few nodes, but many tabs.
	tabs := slices.Repeat([]api.Node{node(api.NBreak, "")}, 1000)
	if _, e := check(t, file(nested(60, tabs...))); e != api.ErrLong {
		t.Errorf("1000 breaks far within: %d", e)
	}
	if _, e := check(t, file(nested(50, tabs...))); e != api.OK {
		t.Errorf("1000 breaks not so far within: %d", e)
	}
	for _, edge := range []int{6552, 6553, 6554} {
		check(t, file(slices.Repeat([]api.Node{node(api.NImport, "q")}, edge)...))
	}
	if _, e := check(t, file(slices.Repeat([]api.Node{funcOf()}, 200000)...)); e != api.ErrLong {
		t.Errorf("200000 functions: %d", e)
	}
	// A tree that the grammar does not make is told ahead of a text that is too long.
	n = ofLength(t, 80000)
	n.Kids = append(n.Kids, none)
	if _, e := check(t, n); e != api.ErrForm {
		t.Errorf("a long text, and nothing: %d", e)
	}
}

// spoil makes one of a tree's nodes another one.
func spoil(r *rand.Rand, n api.Node) api.Node {
	n = deepCopy(n)
	m := &n
	for len(m.Kids) > 0 && r.Intn(8) > 0 {
		m = &m.Kids[r.Intn(len(m.Kids))]
	}
	switch r.Intn(6) {
	case 0:
		m.Kind = r.Intn(40) - 3
	case 1:
		m.Name = maker{r}.pick("", "_", "for", "x y", "1", "\n", "\xff", "+", "||", `"`, "//", "true", "int", "x")
	case 2:
		m.Kids = append(m.Kids, maker{r}.expr(2, 1, false))
	case 3:
		m.Kids = m.Kids[:len(m.Kids)/2]
	case 4:
		slices.Reverse(m.Kids)
	case 5:
		*m = maker{r}.stmt(2)
	}
	return n
}

// TestSpoiled: P12.1, P12.2 and P12.4, trees of which some are none of the grammar, and what is made of any nodes.
func TestSpoiled(t *testing.T) {
	t.Parallel()
	r := rand.New(rand.NewSource(123))
	told := map[api.Errno]int{}
	for range 20000 {
		n := spoil(r, maker{r}.file(1+r.Intn(4)))
		_, e := check(t, n)
		told[e]++
	}
	if told[api.OK] < 1000 || told[api.ErrForm] < 1000 {
		t.Errorf("too few of a sort: %v", told)
	}
	var anything func(deep int) api.Node
	anything = func(deep int) api.Node {
		n := node(r.Intn(36)-1, maker{r}.pick("", "x", "p", "int", "+", "1"))
		for range r.Intn(5) * min(deep, 1) {
			n.Kids = append(n.Kids, anything(deep-1))
		}
		return n
	}
	for range 5000 {
		check(t, file(anything(4)))
		check(t, file(funcOf(anything(3))))
	}
}

// TestUnchanged: P12.4, what is handed in stays as it is, what its lists have behind them, too.
func TestUnchanged(t *testing.T) {
	t.Parallel()
	r := rand.New(rand.NewSource(124))
	for range 500 {
		n := scattered(r, maker{r}.file(4))
		if r.Intn(3) == 0 {
			n = scattered(r, spoil(r, n))
		}
		behind(n, func(last *api.Node) { last.Name = "behind" })
		was := deepCopy(n)
		first, e := Text(n)
		behind(n, func(last *api.Node) {
			if last.Name != "behind" || last.Kind != 0 || last.Kids != nil {
				t.Fatalf("a list was written behind its end")
			}
		})
		if !reflect.DeepEqual(deepCopy(n), was) {
			t.Fatalf("a tree was changed")
		}
		if again, e2 := Text(n); again != first || e2 != e {
			t.Fatalf("another answer the second time")
		}
	}
}

// behind hands over what stands behind the end of each list of a tree.
func behind(n api.Node, see func(last *api.Node)) {
	if cap(n.Kids) > len(n.Kids) {
		see(&n.Kids[:cap(n.Kids)][len(n.Kids)])
	}
	for _, kid := range n.Kids {
		behind(kid, see)
	}
}
