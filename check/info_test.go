package check

import (
	"math"
	"reflect"
	"regexp"
	"strconv"
	"strings"
	"testing"

	"emend/api"
	"emend/parser"
	"emend/scope"
	"emend/types"
)

// one is the info of documents that have no fault.
func one(t *testing.T, text string) *Info {
	t.Helper()
	x, _, f := check(t, documents(text))
	if f.E != api.OK {
		t.Fatalf("%v in %s", f, text)
	}
	return x
}

// TestTypes: P15.2, by hand: each expression of a statement, by its text.
func TestTypes(t *testing.T) {
	t.Parallel()
	for _, c := range []struct{ stmt, want string }{
		{"i = (1 + j) * -i", "i:int 1:int j:int 1 + j:int (1 + j):int i:int -i:int (1 + j) * -i:int"},
		{"b = !(x < 1.5) && s == \"\"", `b:bool x:float64 1.5:float64 x < 1.5:bool (x < 1.5):bool !(x < 1.5):bool s:string "":string s == "":bool !(x < 1.5) && s == "":bool`},
		{"none()", "none:- none():none"},
		{"print(int(x), true)", "x:float64 int(x):int true:bool print(int(x), true):none"},
		{"panic(s + \"a\")", `s:string "a":string s + "a":string panic(s + "a"):none`},
		{"i = len(s)", "i:int s:string len(s):int"},
		{"t.u.N = q.F(i).U.N", "t:p.T t.u:q.U t.u.N:int q:- q.F:- i:int q.F(i):q.V q.F(i).U:q.U q.F(i).U.N:int"},
		{"t = t.m(1).m(i)", "t:p.T t:p.T t.m:- 1:int t.m(1):p.T t.m(1).m:- i:int t.m(1).m(i):p.T"},
		{"t.n()", "t:p.T t.n:- t.n():none"},
		{"z := T{a: 1, u: q.U{}}", "1:int q:- q.U{}:q.U T{a: 1, u: q.U{}}:p.T"},
		{"var z q.U = far()", "q:- far:- far():q.U"},
		{"z := u.K; z2 := z.A", "u:q.U u.K:q.k z:q.k z.A:int"},
		{"var z = u.M(); var z2 = (z)", "u:q.U u.M:- u.M():q.k z:q.k (z):q.k"},
		{"b = t == T{} || e != W{}", "b:bool t:p.T T{}:p.T t == T{}:bool e:p.W W{}:p.W e != W{}:bool t == T{} || e != W{}:bool"},
		{"{ i := s; { i := b; c = i }; s = i }; j = i", "s:string b:bool c:bool i:bool s:string i:string j:int i:int"},
		{"for i := x; i < x; i = i + x { x = i }", "x:float64 i:float64 x:float64 i < x:bool i:float64 i:float64 x:float64 i + x:float64 x:float64 i:float64"},
		{"x = float64(i) / -y", "x:float64 i:int float64(i):float64 y:float64 -y:float64 float64(i) / -y:float64"},
	} {
		text := near + c.stmt + far
		x := one(t, text)
		doc := documents(text)[0].Text
		root, _, _ := parser.Parse(doc)
		var got []string
		var visit func(n api.Node)
		visit = func(n api.Node) {
			for _, kid := range n.Kids {
				visit(kid)
			}
			if n.From < len(near) || n.Kind < api.NInt || n.Kind == api.NKeyed {
				return
			}
			shown := "-"
			if y, ok := x.Type(0, n); ok {
				shown = y.Text()
				if y == (types.Type{}) {
					shown = "none"
				}
			}
			got = append(got, doc[n.From:n.To]+":"+shown)
		}
		visit(root)
		if strings.Join(got, " ") != c.want {
			t.Errorf("%s: %s, not %s", c.stmt, strings.Join(got, " "), c.want)
		}
	}
}

// TestOthers: P15.2, of what is no expression.
func TestOthers(t *testing.T) {
	t.Parallel()
	x := one(t, `package p; import "q"; func f(a int) q.U { var z q.U = q.U{N: a}; return z }@q/a package q; type U struct { N int }`)
	at := strings.Index(`package p; import "q"; func f(a int) q.U { var z q.U = q.U{N: a}; return z }`, "a}")
	for doc := -2; doc < 4; doc++ {
		for kind := -1; kind < 36; kind++ {
			y, ok := x.Type(doc, api.Node{Kind: kind, From: at, To: at + 1})
			if is := doc == 0 && kind == api.NIdent; ok != is || is && y.Kind != types.Int || !is && y != (types.Type{}) {
				t.Errorf("Type of the kind %d of %d: %v, %t", kind, doc, y, ok)
			}
		}
	}
	for _, n := range []api.Node{{}, {Kind: api.NIdent}, {Kind: api.NIdent, From: at, To: at}, {Kind: api.NIdent, From: at + 1, To: at},
		{Kind: math.MinInt, From: math.MaxInt, To: math.MinInt}, {Kind: api.NIdent, From: -at, To: -at - 1}} {
		if y, ok := x.Type(0, n); ok || y != (types.Type{}) {
			t.Errorf("Type of %v: %v", n, y)
		}
	}
}

// Behind a name, or a STRING, of a marked text stands a mark: <=1> where what is called 1 is declared, <1> where a name
// stands for it.

var markForm = regexp.MustCompile(`("[^"]*"|[A-Za-z0-9_]+)<(=?)([0-9]+)>`)

// TestFound: P15.3, by hand, in marked texts.
func TestFound(t *testing.T) {
	t.Parallel()
	for _, text := range []string{
		"type T<=1> struct { A<=2> int; b<=3> T2<4> }; type T2<=4> struct { A<=5> int }; func (t<=6> T<1>) M<=7>(a<=8> T2<4>) T<1> { " +
			"return T<1>{b<3>: a<8>, A<2>: t<6>.M<7>(t<6>.b<3>).A<2> + t<6>.b<3>.A<5>} }",
		"func f<=1>(a<=2> int) { L<=3>: for i<=4> := a<2>; i<4> < a<2>; i<4> = i<4> + 1 { break L<3> }; var z<=5> int = a<2>; f<1>(z<5>) }",
		"type T<=1> struct { a<=2> U<3> }; type U<=3> struct { a<=4> int }; func f(t<=5> T<1>) { t<5>.a<2>.a<4> = 1; u<=6> := t<5>; u<6>.a<2> = U<3>{a<4>: u<6>.a<2>.a<4>} }",
		"type T<=1> struct { T<=2> int }; func (T<=3> T<1>) t<=4>() int { return T<3>.T<2> }; func f() int { return (T<1>{T<2>: 1}).t<4>() }",
		`import "q"<=1>; func f<=2>(a<=3> q<1>.U<4>) int { a<3>.N<5> = 1; q<1>.F<6>(); return a<3>.M<7>().M<7>().N<5> }` +
			`@q/a package q; type U<=4> struct { N<=5> int }; func F<=6>() U<4> { return U<4>{N<5>: 1} }; func (u<=8> U<4>) M<=7>() U<4> { return u<8> }`,
	} {
		text = "package p; " + text
		x := one(t, markForm.ReplaceAllString(text, "$1"))
		declared, found := map[string][2]int{}, map[[2]int]string{}
		for doc, text := range strings.Split(text, "@") {
			cut := 0
			if doc > 0 {
				cut = strings.Index(text, " ") + 1
			}
			for _, l := range markForm.FindAllStringSubmatchIndex(text, -1) {
				at, called := [2]int{doc, l[0] - cut}, text[l[6]:l[7]]
				if l[4] < l[5] {
					declared[called] = at
				}
				found[at] = called
				cut += l[1] - l[3]
			}
		}
		for at, called := range found {
			if d, ok := x.Find(at[0], at[1]); !ok || [2]int{d.Doc, d.At} != declared[called] {
				t.Errorf("Find(%v): %v, %t, in %s", at, d, ok, text)
			}
		}
		for _, u := range x.Members() {
			if to := declared[found[[2]int{u.Doc, u.At}]]; !u.Is || to != [2]int{u.Decl.Doc, u.Decl.At} {
				t.Errorf("Members: %v in %s", u, text)
			}
		}
	}
}

// TestNil: what nil, and what Make did not make, answer.
func TestNil(t *testing.T) {
	t.Parallel()
	for _, x := range []*Info{nil, {}} {
		if x.Program() != nil || x.Types() != nil || len(x.Members()) != 0 {
			t.Errorf("%v: %v, %v, %v", x, x.Program(), x.Types(), x.Members())
		}
		for i := -1; i < 3; i++ {
			if d, ok := x.Find(i, i); ok || d != (api.Decl{}) {
				t.Errorf("Find(%d, %d): %v", i, i, d)
			}
			for kind := range 34 {
				if y, ok := x.Type(i, api.Node{Kind: kind}); ok || y != (types.Type{}) {
					t.Errorf("Type of %d: %v", kind, y)
				}
			}
		}
	}
	x, f := Make(nil)
	if f != (api.Fault{}) || x.Program() == nil || x.Program().Len() != 0 || x.Types() == nil || len(x.Members()) != 0 {
		t.Errorf("Make of no documents: %v", f)
	}
}

// TestMade: P15.2, the program and the types are those that scope and types make.
func TestMade(t *testing.T) {
	t.Parallel()
	text := near + "i = t.a" + far
	x := one(t, text)
	p, _ := scope.Make(documents(text))
	ts, _ := types.Make(p)
	for range 2 {
		if !reflect.DeepEqual(x.Program(), p) || !reflect.DeepEqual(x.Types(), ts) {
			t.Errorf("others were made")
		}
		// Who is answered may do with it what he wants.
		*x.Program(), *x.Types() = scope.Program{}, types.Types{}
	}
}

// TestChains: P15.2, variables of which each is of the type of those ahead are asked for just once.
func TestChains(t *testing.T) {
	t.Parallel()
	text := "package p; func f() bool { x0 := 1"
	for i := range 1000 {
		before := "x" + strconv.Itoa(i)
		text += "; x" + strconv.Itoa(i+1) + " := " + before + " + " + before
	}
	x, f := Make(documents(text + "; return x1000 == x1000 }"))
	if f.E != api.OK {
		t.Fatalf("%v", f)
	}
	at := len(text) + len("; return ")
	if y, ok := x.Type(0, api.Node{Kind: api.NIdent, From: at, To: at + 5}); !ok || y.Kind != types.Int {
		t.Errorf("Type of the last one: %v", y)
	}
	// So they are, if none has a type.
	if _, f := Make(documents(strings.Replace(text, ":= 1", ":= y", 1) + " }")); f != (api.Fault{At: 33, E: api.ErrBound}) {
		t.Errorf("%v", f)
	}
}

// listener keeps all faults that it is told of.
type listener struct{ told []api.Fault }

func (l *listener) tell(f api.Fault) {
	if f.E != api.OK {
		l.told = append(l.told, f)
	}
}

// TestToldOnce: what is asked twice is told once: of a variable, whose type is asked wherever its name stands, too.
func TestToldOnce(t *testing.T) {
	t.Parallel()
	for _, stmts := range []string{
		"var z ^Z; z = 1; z.a = z; z2 := z; z2 = -z", "z := ^y; z = z + z; z2 := z; print(z2, z)", "var z = g^(); z = 1; z.b = -z",
		"var z T = ^1; z = z; z = T{}; z2 := z.a; z2 = 2", "z := T{a: ^true}; z.a = z.a",
	} {
		text := "package p; type T struct { a int }; func g() {}; func f() { " + stmts + " }"
		at := strings.IndexByte(text, '^')
		p, _ := scope.Make(documents(strings.Replace(text, "^", "", 1)))
		ts, _ := types.Make(p)
		m := newMaker(p, ts)
		m.lookAtBodies()
		m.exprs = map[span]answer{}
		l := &listener{}
		asker{maker: m, to: l}.stmt(p.File(0).Kids[2].Kids[3])
		if len(l.told) != 1 || l.told[0].At != at {
			t.Errorf("%s: %v", text, l.told)
		}
	}
}
