package ast

import (
	"math/rand"
	"slices"
	"testing"

	"emend/api"
)

// node is a tree without places.
func node(kind int, name string, kids ...api.Node) api.Node {
	return api.Node{Kind: kind, Name: name, Kids: kids}
}

func ident(name string) api.Node { return node(api.NIdent, name) }
func paren(n api.Node) api.Node  { return node(api.NParen, "", n) }
func binary(op string, a, b api.Node) api.Node {
	return node(api.NBinary, op, a, b)
}
func call(name string, args ...api.Node) api.Node {
	return node(api.NCall, "", append([]api.Node{ident(name)}, args...)...)
}
func block(stmts ...api.Node) api.Node { return node(api.NBlock, "", stmts...) }
func returned(e api.Node) api.Node     { return node(api.NReturn, "", e) }
func define(e api.Node) api.Node       { return node(api.NDefine, "x", e) }
func assign(path, e api.Node) api.Node { return node(api.NAssign, "", path, e) }
func callStmt(e api.Node) api.Node     { return node(api.NCallStmt, "", e) }
func ifOf(e, other api.Node) api.Node  { return node(api.NIf, "", e, block(), other) }
func forOf(first, e, last api.Node) api.Node {
	return node(api.NFor, "", first, e, last, block())
}

// fileOf is the file p of some declarations, funcOf that of a function f of some statements.
func fileOf(decls ...api.Node) api.Node { return node(api.NFile, "p", decls...) }
func funcOf(stmts ...api.Node) api.Node {
	return fileOf(node(api.NFunc, "f", none, node(api.NParams, ""), none, block(stmts...)))
}

var (
	none = api.Node{}
	x    = ident("x")
	lit  = node(api.NLit, "", node(api.NTypeName, "T"))
	litA = node(api.NSel, "a", lit)
)

// checkTree tells of a tree for which Check has another answer than it should, or than the model.
func checkTree(t *testing.T, what string, n api.Node, want api.Errno) {
	t.Helper()
	if e := Check(n); e != want {
		t.Errorf("Check of %s: %d, not %d", what, e, want)
	}
	checkAgainstModel(t, n)
}

// checkAgainstModel holds Check of a tree against the model.
func checkAgainstModel(t *testing.T, n api.Node) api.Errno {
	t.Helper()
	want := modelCheck(n)
	if e := Check(n); e != want {
		t.Fatalf("Check(%s): %d, not %d", shown(n), e, want)
	}
	return want
}

// TestCheckExamples: P10.1, the chapter's examples.
func TestCheckExamples(t *testing.T) {
	f := fileOf()
	checkTree(t, "the file p", f, api.OK)
	checkTree(t, "x", x, api.ErrForm)
	checkTree(t, "the file for", node(api.NFile, "for"), api.ErrForm)
	checkTree(t, "nothing", none, api.ErrForm)
	for _, c := range []struct {
		what string
		e    api.Node
		want api.Errno
	}{
		{"x + x * x", binary("+", x, binary("*", x, x)), api.OK},
		{"(x + x) * x without NParen", binary("*", binary("+", x, x), x), api.ErrForm},
		{"x || x && x", binary("||", x, binary("&&", x, x)), api.OK},
		{"-x", node(api.NUnary, "-", x), api.OK},
		{"01", node(api.NInt, "01"), api.ErrForm},
	} {
		checkTree(t, c.what, funcOf(returned(c.e)), c.want)
	}
	checkTree(t, "if T{}.a {}", funcOf(ifOf(litA, none)), api.ErrForm)
	checkTree(t, "if (T{}).a {}", funcOf(ifOf(node(api.NSel, "a", paren(lit)), none)), api.OK)
	checkTree(t, "if f(T{}) {}", funcOf(ifOf(call("f", lit), none)), api.OK)
	checkTree(t, "for ;; x := x {}", funcOf(forOf(none, none, define(x))), api.ErrForm)
	checkTree(t, "{ x }", funcOf(x), api.ErrForm)
	checkTree(t, "{ f(x) }", funcOf(callStmt(call("f", x))), api.OK)
	checkTree(t, "{ len(x) }", funcOf(callStmt(node(api.NBuiltin, "len", x))), api.ErrForm)
	checkTree(t, "{ f(x)(x) }", funcOf(callStmt(node(api.NCall, "", call("f", x), x))), api.ErrForm)
}

// samples are trees of each sort, of each of its rules at least two, none of them deep.
func samples(r *rand.Rand) (l []api.Node) {
	for _, by := range rules {
		for _, most := range []int{0, 3} {
			l = append(l, growRule(r, by, most))
		}
		if len(by.items) > 0 && by.items[len(by.items)-1].many {
			bare := growRule(r, by, 0)
			bare.Kids = bare.Kids[:slices.IndexFunc(by.items, func(i item) bool { return i.many })]
			l = append(l, bare)
		}
	}
	return append(l, litA, paren(lit), call("f", lit), node(api.NCall, "", litA), node(api.NCall, "", x, lit), node(api.NUnary, "-", lit))
}

// broad is a file in which each rule is made use of.
func broad(r *rand.Rand) api.Node {
	var stmts []api.Node
	for _, by := range rules {
		n := growRule(r, by, 2)
		switch {
		case isOf(n, "stmt"):
			stmts = append(stmts, n)
		case isOf(n, "e1"):
			stmts = append(stmts, returned(n), define(n))
		}
	}
	stmts = append(stmts, ifOf(x, block()), ifOf(x, ifOf(x, none)), forOf(define(x), x, assign(x, x)), forOf(callStmt(call("f")), none, none))
	file := funcOf(stmts...)
	file.Kids = append(file.Kids, growRule(r, rules[2], 3), growRule(r, rules[3], 3))
	file.Kids = slices.Insert(file.Kids, 0, node(api.NImport, "q"), node(api.NImport, "q"))
	return file
}

// TestCheckSamples: P10.1, a sample in the place of each node of a file: what may stand where, and what may not.
func TestCheckSamples(t *testing.T) {
	t.Parallel()
	r := rand.New(rand.NewSource(101))
	file := broad(r)
	checkTree(t, "a broad file", file, api.OK)
	told := map[api.Errno]int{}
	all := samples(r)
	for at := range size(file) {
		for _, s := range all {
			told[checkAgainstModel(t, changed(file, at, func(api.Node) api.Node { return s }))]++
		}
	}
	if told[api.OK] < 2000 || told[api.ErrForm] < 2000 {
		t.Errorf("too few of a sort: %v", told)
	}
}

// TestCheckKids: P10.1, of each sample a child less, one twice, two changed about, and nothing more at each place.
func TestCheckKids(t *testing.T) {
	t.Parallel()
	r := rand.New(rand.NewSource(102))
	for range 6 {
		file := broad(r)
		for at := range size(file) {
			for kid := range 5 {
				checkAgainstModel(t, changed(file, at, func(n api.Node) api.Node {
					if kid < len(n.Kids) {
						n.Kids = slices.Delete(n.Kids, kid, kid+1)
					}
					return n
				}))
				checkAgainstModel(t, changed(file, at, func(n api.Node) api.Node {
					if kid < len(n.Kids) {
						n.Kids = slices.Insert(n.Kids, kid, n.Kids[kid])
					}
					return n
				}))
				checkAgainstModel(t, changed(file, at, func(n api.Node) api.Node {
					if kid+1 < len(n.Kids) {
						n.Kids[kid], n.Kids[kid+1] = n.Kids[kid+1], n.Kids[kid]
					}
					return n
				}))
				checkAgainstModel(t, changed(file, at, func(n api.Node) api.Node {
					n.Kids = slices.Insert(n.Kids, min(kid, len(n.Kids)), none)
					return n
				}))
			}
		}
	}
}

// TestCheckNames: P10.1, each node of a file with each of many names, and with each kind.
func TestCheckNames(t *testing.T) {
	t.Parallel()
	file := broad(rand.New(rand.NewSource(103)))
	for at := range size(file) {
		for _, name := range oddNames {
			checkAgainstModel(t, changed(file, at, func(n api.Node) api.Node {
				n.Name = name
				return n
			}))
		}
		for _, kind := range append(slices.Collect(countTo(40)), -1, 1<<40, -1<<62) {
			checkAgainstModel(t, changed(file, at, func(n api.Node) api.Node {
				n.Kind = kind
				return n
			}))
		}
	}
	for _, c := range []struct {
		what string
		e    api.Node
		want api.Errno
	}{
		{"1 with a blank", node(api.NInt, "1 "), api.ErrForm},
		{"1 with a semicolon", node(api.NInt, "1;"), api.ErrForm},
		{"1 with a line's end", node(api.NInt, "1\n"), api.ErrForm},
		{"1 with a comment", node(api.NInt, "1//"), api.ErrForm},
		{"-1 as a token", node(api.NInt, "-1"), api.ErrForm},
		{"a float as a whole number", node(api.NInt, "1.5"), api.ErrForm},
		{"a whole number as a float", node(api.NFloat, "1"), api.ErrForm},
		{"a text without marks", node(api.NString, "a"), api.ErrForm},
		{"two texts", node(api.NString, `"a""b"`), api.ErrForm},
		{"a reserved word", ident("len"), api.ErrForm},
		{"_", ident("_"), api.ErrForm},
		{"1 of the name nothing", node(api.NInt, ""), api.ErrForm},
		{"an NParen with a name", node(api.NParen, "x", x), api.ErrForm},
		{"an NCall with a name", node(api.NCall, "f", x), api.ErrForm},
		{"true", node(api.NBool, "true"), api.OK},
		{"true as a name", ident("true"), api.ErrForm},
		{"+x", node(api.NUnary, "+", x), api.ErrForm},
		{"bool(x)", node(api.NBuiltin, "bool", x), api.ErrForm},
		{"float64()", node(api.NBuiltin, "float64"), api.OK},
		{"int{}", node(api.NLit, "", node(api.NTypeName, "int")), api.ErrForm},
		{"T{a: x, a: x}", node(api.NLit, "", node(api.NTypeName, "T"), node(api.NKeyed, "a", x), node(api.NKeyed, "a", x)), api.OK},
	} {
		checkTree(t, c.what, funcOf(returned(c.e)), c.want)
	}
}

// countTo goes through 0, 1 and so on.
func countTo(n int) func(yield func(int) bool) {
	return func(yield func(int) bool) {
		for i := range n {
			if !yield(i) {
				return
			}
		}
	}
}

// TestCheckLevels: P10.1, each operator with expressions of each level at both sides, two deep.
func TestCheckLevels(t *testing.T) {
	operators := []string{"||", "&&", "==", "!=", "<", "<=", ">", ">=", "+", "-", "*", "/", "%", "!", "&", "", "="}
	plain := []api.Node{x, node(api.NInt, "1"), paren(binary("||", x, x)), node(api.NUnary, "-", x), node(api.NUnary, "!", node(api.NUnary, "-", x)), lit, litA, none, block()}
	level := slices.Clone(plain)
	for _, op := range operators {
		level = append(level, binary(op, x, x))
	}
	told := map[api.Errno]int{}
	for _, a := range level {
		for _, op := range operators {
			for _, b := range level {
				told[checkAgainstModel(t, funcOf(returned(binary(op, a, b))))]++
				told[checkAgainstModel(t, funcOf(returned(binary(op, x, binary(op, a, b)))))]++
				told[checkAgainstModel(t, funcOf(returned(binary(op, binary(op, a, b), x))))]++
			}
			told[checkAgainstModel(t, funcOf(returned(node(api.NUnary, op, a))))]++
			told[checkAgainstModel(t, funcOf(returned(node(api.NSel, "a", node(api.NUnary, op, a)))))]++
		}
		told[checkAgainstModel(t, funcOf(returned(node(api.NSel, "a", a))))]++
		told[checkAgainstModel(t, funcOf(returned(node(api.NCall, "", a, a))))]++
		told[checkAgainstModel(t, funcOf(returned(node(api.NCall, "", node(api.NSel, "a", a)))))]++
		told[checkAgainstModel(t, funcOf(callStmt(a)))]++
		told[checkAgainstModel(t, funcOf(assign(a, x)))]++
		told[checkAgainstModel(t, funcOf(assign(node(api.NSel, "a", a), x)))]++
	}
	if told[api.OK] < 1000 || told[api.ErrForm] < 1000 {
		t.Errorf("too few of a sort: %v", told)
	}
}

// TestCheckHeads: P10.1, literals in each place of heads: bare, and with brackets around them.
func TestCheckHeads(t *testing.T) {
	keyed := func(e api.Node) api.Node {
		return node(api.NLit, "", node(api.NTypeName, "T"), node(api.NKeyed, "a", e))
	}
	method := func(own api.Node, args ...api.Node) api.Node {
		return node(api.NCall, "", append([]api.Node{node(api.NSel, "m", own)}, args...)...)
	}
	for _, c := range []struct {
		what string
		e    api.Node
		want api.Errno
	}{
		{"T{}", lit, api.ErrForm},
		{"q.T{}", node(api.NLit, "", node(api.NTypeSel, "T", ident("q"))), api.ErrForm},
		{"(T{})", paren(lit), api.OK},
		{"x == T{}", binary("==", x, lit), api.ErrForm},
		{"T{} == x", binary("==", lit, x), api.ErrForm},
		{"x == (T{})", binary("==", x, paren(lit)), api.OK},
		{"!T{}.a", node(api.NUnary, "!", litA), api.ErrForm},
		{"f(T{}.a)", call("f", litA), api.OK},
		{"f(x, T{})", call("f", x, lit), api.OK},
		{"f(T{}) == T{}", binary("==", call("f", lit), lit), api.ErrForm},
		{"len(T{}.a)", node(api.NBuiltin, "len", litA), api.OK},
		{"T{}.m(x)", method(lit, x), api.ErrForm},
		{"(T{}).m(T{})", method(paren(lit), lit), api.OK},
		{"T{}.m(x).m(x)", method(method(lit, x), x), api.ErrForm},
		{"f(T{}).m(x)", method(call("f", lit), x), api.OK},
		{"f(x).m(T{a: T{}})", method(call("f", x), keyed(lit)), api.OK},
		{"T{a: (T{})}", keyed(paren(lit)), api.ErrForm},
		{"(T{a: T{}})", paren(keyed(lit)), api.OK},
	} {
		checkTree(t, "if "+c.what, funcOf(ifOf(c.e, none)), c.want)
		checkTree(t, "if x {} else if "+c.what, funcOf(ifOf(x, ifOf(c.e, none))), c.want)
		checkTree(t, "for ;"+c.what, funcOf(forOf(none, c.e, none)), c.want)
		checkTree(t, "for x := "+c.what, funcOf(forOf(define(c.e), none, none)), c.want)
		checkTree(t, "for x = "+c.what, funcOf(forOf(assign(x, c.e), none, none)), c.want)
		checkTree(t, "for ;;x = "+c.what, funcOf(forOf(none, none, assign(x, c.e))), c.want)
		checkTree(t, "L: for ;;x = "+c.what, funcOf(node(api.NLabel, "L", forOf(none, none, assign(x, c.e)))), c.want)
		checkTree(t, "for f("+c.what+")", funcOf(forOf(callStmt(call("f", c.e)), none, none)), api.OK)
		checkTree(t, "for ;;print("+c.what+")", funcOf(forOf(none, none, callStmt(node(api.NBuiltin, "print", c.e)))), api.OK)
		checkTree(t, "for ;;.. .m()", funcOf(forOf(none, none, callStmt(method(paren(c.e))))), api.OK)
		checkTree(t, "x := "+c.what, funcOf(define(c.e)), api.OK)
		checkTree(t, "if x { return }, return "+c.what, funcOf(node(api.NIf, "", x, block(returned(c.e)), none)), api.OK)
		checkTree(t, "for { x = }, x = "+c.what, funcOf(node(api.NFor, "", none, none, none, block(assign(x, c.e)))), api.OK)
	}
	checkTree(t, "for T{}.m()", funcOf(forOf(callStmt(method(lit)), none, none)), api.ErrForm)
	checkTree(t, "for ;;T{}.m()", funcOf(forOf(none, none, callStmt(method(lit)))), api.ErrForm)
	checkTree(t, "T{}.m()", funcOf(callStmt(method(lit))), api.OK)
}

// TestCheckStatements: P10.1, what of statements the chapter's words set apart.
func TestCheckStatements(t *testing.T) {
	typ := node(api.NTypeName, "int")
	for _, c := range []struct {
		what string
		stmt api.Node
		want api.Errno
	}{
		{"var x int", node(api.NVar, "x", typ, none), api.OK},
		{"var x = x", node(api.NVar, "x", none, x), api.OK},
		{"var x int = x", node(api.NVar, "x", typ, x), api.OK},
		{"var x", node(api.NVar, "x", none, none), api.ErrForm},
		{"var x int, one child", node(api.NVar, "x", typ), api.ErrForm},
		{"return", node(api.NReturn, ""), api.OK},
		{"return of nothing", returned(none), api.ErrForm},
		{"return x, x", node(api.NReturn, "", x, x), api.ErrForm},
		{"break", node(api.NBreak, ""), api.OK},
		{"break L", node(api.NBreak, "L"), api.OK},
		{"continue for", node(api.NContinue, "for"), api.ErrForm},
		{"break with a child", node(api.NBreak, "", none), api.ErrForm},
		{"L: {}", node(api.NLabel, "L", block()), api.ErrForm},
		{"L: M: for {}", node(api.NLabel, "L", node(api.NLabel, "M", forOf(none, none, none))), api.ErrForm},
		{"nothing as a statement", none, api.ErrForm},
		{"if x {} else x = x", ifOf(x, assign(x, x)), api.ErrForm},
		{"if x {} without a third child", node(api.NIf, "", x, block()), api.ErrForm},
		{"if {}", ifOf(none, none), api.ErrForm},
		{"for x := x; x; x() {}", forOf(define(x), x, callStmt(call("x"))), api.OK},
		{"for var x = x;; {}", forOf(node(api.NVar, "x", none, x), none, none), api.ErrForm},
		{"for without a block", node(api.NFor, "", none, none, none, none), api.ErrForm},
		{"(x) = x", assign(paren(x), x), api.ErrForm},
		{"f().a = x", assign(node(api.NSel, "a", call("f")), x), api.ErrForm},
		{"x.a.b = T{}", assign(node(api.NSel, "b", node(api.NSel, "a", x)), lit), api.OK},
		{"x = nothing", assign(x, none), api.ErrForm},
		{"an assignment of the name =", node(api.NAssign, "=", x, x), api.ErrForm},
		{"print()", callStmt(node(api.NBuiltin, "print")), api.OK},
		{"panic(x)", callStmt(node(api.NBuiltin, "panic", x)), api.OK},
		{"int(x) as a statement", callStmt(node(api.NBuiltin, "int", x)), api.ErrForm},
		{"(f()) as a statement", callStmt(paren(call("f"))), api.ErrForm},
		{"f() without NCallStmt", call("f"), api.ErrForm},
	} {
		checkTree(t, c.what, funcOf(c.stmt), c.want)
	}
	checkTree(t, "an import behind a declaration", fileOf(node(api.NType, "T"), node(api.NImport, "q")), api.ErrForm)
	checkTree(t, "an NNone with a name", funcOf(node(api.NVar, "x", typ, node(api.NNone, "y"))), api.ErrForm)
	checkTree(t, "an NNone with a child", funcOf(node(api.NVar, "x", typ, node(api.NNone, "", x))), api.ErrForm)
	own := node(api.NParam, "t", node(api.NTypeSel, "T", ident("q")))
	checkTree(t, "a receiver of a far type", fileOf(node(api.NFunc, "f", own, node(api.NParams, ""), none, block())), api.ErrForm)
	own.Kids = []api.Node{typ}
	checkTree(t, "a receiver of int", fileOf(node(api.NFunc, "f", own, node(api.NParams, ""), none, block())), api.ErrForm)
	own.Kids = []api.Node{node(api.NTypeName, "T")}
	checkTree(t, "a receiver of T", fileOf(node(api.NFunc, "f", own, node(api.NParams, ""), none, block())), api.OK)
}

// deepBody is a file in which a statement stands so deep that so many nodes are above it.
func deepBody(more int, inner api.Node) api.Node {
	for range more - 3 {
		inner = block(inner)
	}
	return funcOf(inner)
}

// deepExpr is an expression of so great a depth.
func deepExpr(depth int) api.Node {
	e := x
	for range depth - 1 {
		e = paren(e)
	}
	return e
}

// TestCheckDepth: P10.1, a depth of 64 and of 65, and which error is the first.
func TestCheckDepth(t *testing.T) {
	none9 := node(api.NNone, "", deepExpr(100))
	for _, c := range []struct {
		what string
		n    api.Node
		want api.Errno
	}{
		{"blocks of 64", deepBody(63, block()), api.OK},
		{"blocks of 65", deepBody(64, block()), api.ErrLong},
		{"an expression of 64", funcOf(returned(deepExpr(60))), api.OK},
		{"an expression of 65", funcOf(returned(deepExpr(61))), api.ErrLong},
		{"a file of 64 with what is wrong", deepBody(63, x), api.ErrForm},
		{"a file of 65 with what is wrong", deepBody(64, x), api.ErrLong},
		{"an expression of 64 alone", deepExpr(64), api.ErrForm},
		{"an expression of 65 alone", deepExpr(65), api.ErrLong},
		{"nothing with a deep tree below it", none9, api.ErrForm},
		{"nothing at a depth of 65", deepBody(63, node(api.NVar, "x", node(api.NTypeName, "T"), none)), api.ErrLong},
		{"nothing below a depth of 64", deepBody(62, node(api.NVar, "x", node(api.NTypeName, "T"), none)), api.OK},
		{"a deep tree below nothing in a file", funcOf(node(api.NVar, "x", node(api.NTypeName, "T"), none9)), api.ErrForm},
		{"a second child that is deep", node(-5, "", x, deepExpr(64)), api.ErrLong},
		{"a file for that is deep", node(api.NFile, "for", deepExpr(64)), api.ErrLong},
	} {
		checkTree(t, c.what, c.n, c.want)
	}
}

// TestCheckEndless: P10.7, a list that holds itself has no depth, but one above any bound.
func TestCheckEndless(t *testing.T) {
	kids := []api.Node{x, block(), paren(x)}
	kids[1].Kids = kids
	if e := Check(fileOf(kids...)); e != api.ErrLong {
		t.Errorf("Check of a tree without an end: %d", e)
	}
}

// TestCheckGrown: P10.1, P10.5, trees that the grammar makes, and such that are spoiled at a node or two.
func TestCheckGrown(t *testing.T) {
	r := rand.New(rand.NewSource(104))
	told := map[api.Errno]int{}
	for range 6000 {
		n := grow(r, "file", 4+r.Intn(6))
		if e := checkAgainstModel(t, n); e != api.OK {
			t.Fatalf("a grown file: %d, %s", e, shown(n))
		}
		told[checkAgainstModel(t, spoil(r, n))]++
		told[checkAgainstModel(t, spoil(r, spoil(r, n)))]++
		checkKinds(t, n)
		sort := allSorts()[r.Intn(len(allSorts()))]
		checkAgainstModel(t, grow(r, sort, 4))
	}
	if told[api.OK] < 1000 || told[api.ErrForm] < 1000 {
		t.Errorf("too few of a sort: %v", told)
	}
}

// checkKinds: P10.5, of a tree that the grammar makes.
func checkKinds(t *testing.T, n api.Node) {
	t.Helper()
	there := 0
	for m := range Each(n) {
		there++
		if m.Kind < api.NFile || m.Kind > api.NParen {
			t.Fatalf("%s: a node of the kind %d", shown(n), m.Kind)
		}
	}
	nothing := 0
	var count func(n api.Node)
	count = func(n api.Node) {
		if n.Kind == api.NNone {
			nothing++
		}
		for _, kid := range n.Kids {
			count(kid)
		}
	}
	count(n)
	if there+nothing != size(n) {
		t.Fatalf("%s: %d of %d nodes", shown(n), there, size(n)-nothing)
	}
}

// TestCheckPlaces: P10.1, P10.5, places do not count, nor whether an empty list is nil.
func TestCheckPlaces(t *testing.T) {
	r := rand.New(rand.NewSource(105))
	for range 1000 {
		n := grow(r, "file", 6)
		if r.Intn(2) == 0 {
			n = spoil(r, n)
		}
		other := changed(scatter(r, n, -5, 20, 2), r.Intn(size(n)), func(m api.Node) api.Node {
			if len(m.Kids) == 0 {
				m.Kids = []api.Node{}
			}
			return m
		})
		if !Same(n, other) || Check(n) != Check(other) {
			t.Fatalf("%s and %s: %t, %d, %d", whole(n), whole(other), Same(n, other), Check(n), Check(other))
		}
	}
}
