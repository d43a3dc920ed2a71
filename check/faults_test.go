package check

import (
	"strings"
	"testing"

	"emend/api"
)

// documents are those of a text: each but the first, which is p/a, begins behind @ and its directory and file.
func documents(text string) (docs []api.Doc) {
	for _, part := range strings.Split("p/a "+text, "@") {
		name, text, _ := strings.Cut(part, " ")
		docs = append(docs, api.Doc{URI: "file:///" + name + ".go", Text: text})
	}
	return docs
}

// told tells of documents of which Make tells another fault than that one: where ^ stands, if it stands somewhere.
func told(t *testing.T, e api.Errno, text string) {
	t.Helper()
	docs := documents(text)
	want := api.Fault{E: e}
	for i, doc := range docs {
		if at := strings.IndexByte(doc.Text, '^'); at >= 0 {
			want.Doc, want.At = i, at
			docs[i].Text = strings.Replace(doc.Text, "^", "", 1)
		}
	}
	x, f := Make(docs)
	if f != want || (x == nil) != (e != api.OK) {
		t.Errorf("Make: %v, not %v, of %s", f, want, text)
	}
	check(t, docs)
}

// near and far stand around statements: what is declared in their package, and in one to import.
const (
	near = `package p; import "q"; type T struct { a int; s string; u q.U; w W }; type W struct {}; type w struct { T T }
func (t T) m(a int) T { return t }; func (t T) n() {}; func (w W) M() q.V { return q.F(1) }
func none() {}; func one(a int) int { return a }; func two(a string, b T) T { return b }; func far() q.U { return q.U{} }
func f(i int, j int, b bool, c bool, s string, x float64, y float64, t T, u q.U, e W) {
`
	far = ` }@q/b package q; type U struct { N int; m bool; K k }; type V struct { U U; v int }; type k struct { A int }; type E struct {}
func (u U) M() k { return u.K }; func (u U) n() int { return 1 }; func F(a int) V { return V{v: a} }; func g() {}; func G() {}`
)

// each tells of statements, one a line, in which another fault than that one is told.
func each(t *testing.T, e api.Errno, statements string) {
	t.Helper()
	for _, stmt := range strings.Split(strings.TrimSpace(statements), "\n") {
		stmt = strings.TrimSpace(stmt)
		told(t, e, near+stmt+far)
		if e != api.OK {
			// It is told wherever it stands, and whatever stands behind it.
			told(t, e, near+"other := 1; { for b { if c { "+stmt+"; other = true } } }; return 1"+far)
		}
	}
}

// TestExamples: the chapter's.
func TestExamples(t *testing.T) {
	t.Parallel()
	told(t, api.ErrType, "package p; func f(a int, b float64) int { return a ^+ b }")
	told(t, api.ErrBound, "package p; func f() { ^a = 1 }")
	told(t, api.OK, "package p; func f() int { for { } }")
	told(t, api.ErrFlow, "package p; func f() int { for { break } ^}")
	told(t, api.ErrType, "package p; func f() { x := g^(); x = 1 } ; func g() {}")
	told(t, api.ErrBound, "package p; func f() { x := ^y; x = true }")
	told(t, api.ErrFlow, "package p; func f() { ^break }")
	told(t, api.ErrType, "package p; func f(a int) { ^f = 1 }")
	told(t, api.ErrType, "package p; func f() { f^(1) }")
	x, _, _ := check(t, documents("package p; type T struct { A int }; func (t T) M() T { return T{A: t.M().A} }"))
	var names []string
	for _, u := range x.Members() {
		names = append(names, u.Name)
	}
	if strings.Join(names, " ") != "A M A" {
		t.Errorf("Members: %v", names)
	}
}

// TestPhases: P15.1, scope's fault, then that of types, then that of bodies, whatever stands ahead.
func TestPhases(t *testing.T) {
	t.Parallel()
	told(t, api.OK, "package p")
	told(t, api.ErrForm, "package p; func f() { a = 1 }; type T struct { a none }@p/b package p; ^]")
	told(t, api.ErrTwice, "package p; func f() { a = 1 }; type T struct { a none }@p/b package p; func ^f() {}")
	told(t, api.ErrBound, "package p; func f() { a = 1 }@p/b package p; type T struct { a ^none }")
	told(t, api.ErrCycle, "package p; func f() { a = 1 }@p/b package p; type ^T struct { a T }")
	told(t, api.ErrBound, "package p; func f() { ^a = 1 }; func g() int {}@p/b package p; func h() { a = 1 }")
	told(t, api.ErrFlow, "package p; func g() int {^}; func f() { a = 1 }")
	told(t, api.ErrType, "package p; func g() {}@p/b package p; func f() { g^(1) }@p/c package p; func h() { a = 1 }")
	told(t, api.ErrBound, "package p; func g() {}@p/b package p; func f() { g(); ^a = 1 }@q/a package q; func f() { a = 1 }")
	if x, f := Make([]api.Doc{{}}); x != nil || f != (api.Fault{E: api.ErrArg}) {
		t.Errorf("Make of no workspace: %v", f)
	}
}

// TestFits: P15.1, all that may be.
func TestFits(t *testing.T) {
	t.Parallel()
	each(t, api.OK, `
		i = 1; i = i + j - j * 2 / i % 3; i = -i; i = (i); i = int(i); i = int(x); i = len(s); i = one(one(i))
		x = 1.5; x = x + y - y * 2.0 / x; x = -x; x = float64(x); x = float64(i)
		s = ""; s = s + "x"; b = true; b = !b; b = b && c || !c
		b = i == j; b = x == y; b = s == s; b = b == c; b = t == t; b = u == far(); b = e == W{}; b = W{} != e; b = u.K == u.K
		b = i < j; b = i <= j; b = x > y; b = x >= y; b = s < ""; b = "" >= s; b = s <= s; b = s > s; b = i != j; b = b != c
		t = T{}; t = T{a: 1}; t = T{s: s, a: i, u: u, w: e}; u = q.U{}; u = q.U{N: i, K: u.M()}; t = t.m(i).m(2)
		i = t.a; i = t.u.N; u = t.u; i = T{}.a; i = t.m(1).u.K.A; i = far().N; i = q.F(1).U.N; i = u.K.A; i = u.M().A
		t.a = 1; t.u.N = i; t.u.K.A = 1; t.u = q.U{}; t.w = W{}
		none(); one(1); t.n(); t.m(1); u.M(); q.G(); q.F(i); T{}.n(); (t).n(); two("", t).n(); t.w.M()
		print(i); print(i, b, s, x); panic(s); panic("" + s); print(one(1), t.a, q.F(1).U.N)
		var z int; var z2 = i; var z3 int = i; var z4 T = t.m(1); var z5 q.U; var z6 q.U = far()
		z7 := u.K; z7 = u.M(); z8 := z7.A; i = z8; var z9 = z7; z9 = u.K; { z7 := z9.A; i = z7 }
		if b { } else if c { } else { }; for b { }; for i := 0; i < 1; i = i + 1 { }; for ; b; { }; for none();; none() { i = 1 }
		one := one(1); i = one; { T := t; T.a = 1 }; q := q.F(1); u = q.U
		return
		for { break }; for { continue; break }; L: for { for { break L; continue L }; break }; for { { if b { break } else { continue } } }
		panic("")
	`)
}

// TestNames: P15.1, NIdent, by all that a name may stand for.
func TestNames(t *testing.T) {
	t.Parallel()
	each(t, api.ErrBound, `
		^z = 1
		i = ^z
		^z()
		^z.a = 1
		^z.n()
		^Q.F(1)
		i = ^L; L: for { break L }
		i = ^a
		i = ^m
		i = ^N
		{ z := 1 }; ^z = 1
		z := ^z
		i = ^p
		^p.one(1)
	`)
	each(t, api.ErrType, `
		i = ^one
		i = ^T
		^T = t
		^one = 1
		^q = 1
		i = ^q
		b = ^q == q
		b = i == ^one
		i = ^one.a
		i = ^T.a
		^T.a = 1
		^one.m(1)
		^T(1)
		^T()
		^q()
		^i()
		^t(1)
		none := 1; ^none()
		q := 1; ^q(1)
		print(^none)
		i = (^one)
		i = -^one
	`)
}

// TestOperators: P15.1, NUnary and NBinary, by all types.
func TestOperators(t *testing.T) {
	t.Parallel()
	each(t, api.ErrType, `
		i = ^-s
		i = ^-b
		i = ^-t
		b = ^!i
		b = ^!x
		b = ^!s
		b = ^!u
		i = -^-s
		b = !(^!i)
		b = b ^+ c
		t = t ^+ t
		s = s ^- s
		b = b ^- b
		s = s ^* s
		s = s ^/ s
		t = t ^/ t
		x = x ^% y
		s = s ^% s
		b = b ^% b
		b = b ^< c
		b = t ^<= t
		b = e ^> e
		b = b ^>= b
		i = i ^&& j
		s = s ^|| s
		b = t ^&& t
		i = i ^+ x
		x = i ^* x
		b = i ^== x
		b = s ^!= i
		b = t ^== u
		b = e ^== t
		b = b ^&& i
		b = i ^|| b
		b = i ^< x
		i = i ^% x
		i = i + (j ^+ s)
		i = i + j ^+ s
		i = -(i ^+ b)
		b = !(i ^== b)
		b = i == j ^== i
	`)
	// What has no type is told itself, and nothing that is put together out of it.
	each(t, api.ErrBound, `
		i = b + ^z
		i = ^z + b
		i = -^z
		b = !^z
		b = i && ^z
		i = (^z)
		b = -(!^z) == -i
		i = -q.U{^z: 1}
		i = !q.U{N: ^z}
		b = -one(^z)
		i = !int(^z)
		i = -(t.^z)
		z := -^none2; z2 := z; b = z2 + 1 == -z
	`)
}

// TestNone: P15.1, what has the type None is no value, wherever one is asked for.
func TestNone(t *testing.T) {
	t.Parallel()
	each(t, api.ErrType, `
		z := none^()
		var z = none^()
		var z int = none^()
		i = none^()
		i = (none^())
		i = 1 + none^()
		i = none^() + 1
		i = none^() + z
		i = -none^()
		b = !t.n^()
		b = none^() == none()
		i = none^().a
		none^().n()
		one(none^())
		t.m(q.G^())
		two(s, t.n^())
		t = T{a: none^()}
		print(1, none^())
		print(none^(), z)
		panic(none^())
		i = int(none^())
		i = len(^print(1))
		i = ^panic("")
		z := ^print(1)
		if none^() { }
		for none^() { }
		for ; none^(); { }
		return none^()
		z := none^(); z = 1; z = true; i = z
	`)
}

// TestSelectors: P15.1, NSel, of imports and of values.
func TestSelectors(t *testing.T) {
	t.Parallel()
	each(t, api.ErrBound, `
		t.^z = 1
		i = t.^z
		i = t.^N
		i = t.u.^a
		i = t.m(1).^z
		i = W{}.^a
		t.^z()
		u.^m2()
		t.^M()
		q.^z()
		q.^Z.a = 1
		i = q.^z
		i = q.^N
		q.^M()
	`)
	each(t, api.ErrType, `
		i = i.^a
		s.^a = ""
		x.^n()
		b = b.^m
		i = t.a.^a
		i = q.^F
		q.^F = 1
		i = q.^V
		i = q.^g
		i = q.^k
		i = q.^U.N
		q.^U()
		q.^V(1)
		q.^k()
		t = t.^m
		t.^n = 1
		i = t.^m.a
		i = u.^M
		i = t.^a()
		t.^u()
		t.u.^N()
		i = -q.^F
	`)
	each(t, api.ErrHidden, `
		u.^m = true
		b = u.^m
		i = u.^n()
		u.^n()
		i = u.^n
		u.^m()
		t.u.^m = true
		q.^g()
		i = q.F(1).^v
		b = T{u: u}.u.^m
		i = far().^n()
	`)
}

// TestCalls: P15.1, NCall.
func TestCalls(t *testing.T) {
	t.Parallel()
	each(t, api.ErrType, `
		none^(1)
		one^()
		one^(1, 2)
		two^(s)
		t.m^()
		t.n^(1)
		q.G^(1)
		q.F^()
		u.M^(1)
		one^(z, s)
		one(^s)
		one(^1.5)
		one(x ^* y)
		one(^-x)
		one(^(s))
		one(t.^s)
		one(t.m^(1))
		one(q.U^{})
		two(^i, t)
		two(s, ^u)
		two(^t, s)
		t.m(^b)
		q.F(^"a")
		one(one(^s))
		one(^b); one(z)
	`)
	each(t, api.ErrBound, `
		one(^z)
		two(^z, 1)
		two(s, ^z); two(1, 2)
		t.m(^z)
		^z(y2)
		t.^z(y2)
	`)
}

// TestLiterals: P15.1, NLit.
func TestLiterals(t *testing.T) {
	t.Parallel()
	each(t, api.ErrBound, `
		t = T{^z: 1}
		t = T{^m: 1}
		t = T{a: 1, ^z: 2}
		t = T{^T: 1}
		u = q.U{^A: 1}
		t = ^Z{}
		t = q.^Z{}
		t = ^Q.U{}
		t = ^Z{z: z, z: z}
		t = T{a: ^z}
		t = T{^z: y2}
		t = T{^z: 1, z: 1}
		t = T{a: 1, s: s, ^M: 1, z: 1}
		e = W{^a: 1}
	`)
	each(t, api.ErrTwice, `
		t = T{a: 1, ^a: 2}
		t = T{a: 1, s: s, ^a: s}
		t = T{a: 1, ^a: z}
		t = T{a: 1, s: "", w: e, ^s: s}
		u = q.U{N: 1, ^N: 1}
	`)
	each(t, api.ErrType, `
		t = ^one{}
		i = ^i{}
		t = q.^F{}
		t = ^q{}
		t = ^t.T{}
		t = T{a: ^s}
		t = T{s: ^1}
		t = T{u: ^t}
		t = T{w: q.U^{}}
		t = T{a: i ^+ x}
		t = T{a: 1, w: ^u}
		u = q.U{K: ^u}
		t = T{a: ^s, a: 1}
		t = T{a: ^s, z: 1}
	`)
	each(t, api.ErrHidden, `
		u = q.U{^m: true}
		u = q.U{^m: 1}
		u = q.U{N: 1, ^m: true}
		u = q.U{^m: true, m: true}
		z := q.^k{}
		z := q.^k{A: 1}
		z := q.V{^v: 1}
	`)
}

// TestBuiltins: P15.1, NBuiltin.
func TestBuiltins(t *testing.T) {
	t.Parallel()
	each(t, api.ErrType, `
		i = ^int()
		i = ^int(1, 2)
		x = ^float64()
		x = ^float64(x, y)
		i = ^len()
		i = ^len(s, s)
		^print()
		^panic()
		^panic(s, s)
		i = ^int(z, z)
		i = int(^s)
		i = int(^b)
		i = int(^t)
		x = float64(^s)
		x = float64(^b)
		x = float64(^e)
		i = len(^i)
		i = len(^x)
		i = len(^b)
		i = len(^t)
		print(^t)
		print(1, ^e)
		print(^u, e)
		panic(^1)
		panic(^x)
		panic(^b)
		panic(^t)
		i = ^float64(i)
		x = ^int(x)
		s = ^len(s)
		print(1, "", true, 1.5, i ^+ x)
	`)
	each(t, api.ErrBound, `
		print(^z)
		print(1, ^z, t)
		i = -len(^z)
		panic(^z)
	`)
}

// TestStatements: P15.1, NVar, NAssign, conditions and returns.
func TestStatements(t *testing.T) {
	t.Parallel()
	each(t, api.ErrBound, `
		var z ^Z
		var z q.^Z
		var z ^Q.U
		var z ^Z = 1
		var z ^Z = y2
		var z ^Z; z = 1; z = true; z.a = z
		var z = ^z
		var z int = ^z
		^z = y2
		i = -^z
		if ^z { i = s }
		for ^z { i = s }
		for z := ^z; z; { }
		for z := 1; b; i = ^z2 { i = s }
		for ; b; ^z = 1 { i = s }
		for z := 1; ; { i = z }; i = ^z
	`)
	each(t, api.ErrType, `
		var z ^one
		var z ^q
		var z q.^F
		var z ^i
		var z ^t.T
		var z int = ^s
		var z T = ^u
		var z q.U = ^t
		var z bool = ^1
		var z float64 = ^1
		var z string = i ^+ x
		var z int = x ^- 1.5
		var z int = 1; z = ^x
		var z int = ^s; z = z + 1; z = s
		z := 1; z = ^s
		var z = s; i = ^z
		i = ^s
		t = ^u
		x = ^1
		i = ^1.5
		s = ^b
		u = ^t
		t.a = ^s
		t.u.K = ^u
		t.u.N = one(1) ^== 1
		if ^i { }
		if ^s { }
		if ^t { }
		if ^(x) { }
		if i ^+ j { }
		if b { } else if ^i { }
		for ^i { }
		for j ^+ 1 { }
		for ; ^x; { }
		for i = 0; ^i; i = i + 1 { }
		for z := 1; ^z; { }
		for i = ^s; i; { }
		for ; ; i = ^s { i = b }
		return ^1
		return ^i
		return ^-z
		return ^(none())
		return one^(z)
	`)
	each(t, api.ErrHidden, `
		var z q.^k
		var z q.^k = u.K
		var z q.^k; z = 1
	`)
}

// TestFlow: P15.1, returns, what leaves rounds or begins them, and functions' ends.
func TestFlow(t *testing.T) {
	t.Parallel()
	for _, block := range []string{
		"return 1", "if c { return 1 }; return 2", "panic(s)", "i = 1; { { panic(s) } }", "{ }; { return 1 }",
		"if c { return 1 } else { return 2 }", "if c { return 1 } else if c { panic(s) } else { for { } }",
		"for { }", "for { continue }", "for { for { break } }", "for i = 1; ; i = i + 1 { }", "for ; ; { if c { return 1 } }",
		"L: for { }", "L: for { continue L }", "L: for { for { break } }", "L: for { M: for { break M } }",
		"for { L: for { break L } }", "L: for { for { continue L } }", "for { if c { L: for { break } } else { for c { break } } }",
		"for { break }; return 1", "L: for { break L }; panic(s)", "return 1; return 2", "for { }; return 1", "for c { }; for { }",
		"for { { return 1 } }; M: for { L: for c { continue M } }",
	} {
		told(t, api.OK, "package p; func f(c bool, s string, i int) int { "+block+" }")
		told(t, api.OK, "package p; type T struct {}; func (t T) f(c bool, s string, i int) int { "+block+" }")
	}
	for _, block := range []string{
		"", "i = 1", "if c { return 1 }", "if c { return 1 } else { }", "if c { } else { return 1 }", "if c { return 1 } else if c { return 1 }",
		"return 1; i = 1", "panic(s); { }", "print(s)", "g()", "for c { return 1 }", "for true { }", "for ; c; { }", "for { break }",
		"for { if c { break } }", "for { { { break } } }", "L: for { break L }", "L: for { for { break L } }", "L: for { break }",
		"L: for { M: for { for { if c { } else { break L } } } }", "L: for c { }", "for { return 1; break }", "for { }; i = 1",
		"if c { return 1 } else { for { break } }", "if c { return 1 } else { L: for { for { break L } } }", "{ return 1 }; { }",
		"var z int = 1", "z := 1", "for { for { }; break }", "L: for { { break L }; for { break L } }",
	} {
		told(t, api.ErrFlow, "package p; func g() {}; func f(c bool, s string, i int) int { "+block+" ^}")
		told(t, api.ErrFlow, "package p; type T struct {}; func (t T) f(c bool, s string, i int) int {\n"+block+"\n^}; func g() {}")
		told(t, api.OK, "package p; func g() {}; func f(c bool, s string, i int) int { { "+block+" }; return 1 }")
	}
	for _, block := range []string{
		"^break", "^continue", "if true { ^break }", "{ ^continue }", "for { }; ^break", "for { break }; ^continue", "L: for { }; ^break",
		"break ^L", "continue ^L", "for { break ^L }", "L: for { }; break ^L", "L: for { }; for { continue ^L }", "M: for { break ^L }",
		"for L := 1; ; { break ^L }", "L: for { M: for { }; break ^M }", "for { { continue ^f } }", "break ^T",
	} {
		told(t, api.ErrFlow, "package p; type T struct {}; func g() { L2: for { break L2 } }; func f() { "+block+" }; func h() { L: for { break L } }")
	}
	told(t, api.ErrType, "package p; func f() int { ^return }")
	told(t, api.ErrType, "package p; func f() int { for { ^return } }")
	told(t, api.ErrType, "package p; func f() int { return ^true }")
	told(t, api.ErrType, "package p; func f() int { return ^1.5 }")
	told(t, api.ErrType, "package p; type T struct {}; func (t T) f() T { if true { return ^1 }; return t }")
	told(t, api.ErrType, "package p; import \"q\"; type T struct {}; func (t T) f() q.T { return ^t }@q/a package q; type T struct {}")
	told(t, api.OK, "package p; type T struct {}; func (t T) f() T { if true { return T{} }; return t }")
	told(t, api.OK, "package p; func f() { if true { return } }")
	told(t, api.ErrFlow, "package p; func f() int { ^}; func g() int { }")
	told(t, api.ErrType, "package p; func f() int { i := 1 ^+ true }")
}
