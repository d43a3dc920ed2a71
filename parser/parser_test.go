package parser

import (
	"fmt"
	"math/rand"
	"slices"
	"strings"
	"testing"
	"unsafe"

	"emend/api"
	"emend/ast"
	"emend/lexer"
)

// short is a text, or what it begins with.
func short(s string) string { return s[:min(len(s), 300)] }

// check holds Parse of a text against the model, and the tree that is told against the text's tokens.
func check(t *testing.T, text string) (api.Node, api.Errno) {
	t.Helper()
	n, place, e := Parse(text)
	want, wantE := modelFault(text)
	if wantE == api.OK {
		want, wantE = deepFault(t, text)
	}
	if place != want || e != wantE {
		t.Fatalf("Parse(%q): %d, %d, not %d, %d", short(text), place, e, want, wantE)
	}
	if e != api.OK {
		if n.Kind != 0 || n.From != 0 || n.To != 0 || n.At != 0 || n.Name != "" || n.Kids != nil {
			t.Fatalf("Parse(%q): a tree beside an error", short(text))
		}
		return n, e
	}
	checkTree(t, text, n)
	if e := ast.Check(n); e != api.OK {
		t.Fatalf("Parse(%q): Check %d", short(text), e)
	}
	return n, e
}

// checkTree tells of a tree that is not the text's. What the grammar makes is looked at by Check, but of trees that
// are too deep.
func checkTree(t *testing.T, text string, n api.Node) {
	t.Helper()
	if s := mismatch(n, text); s != "" {
		t.Fatalf("Parse(%q): %s", short(text), s)
	}
	if !ast.Placed(n, len(text)) {
		t.Fatalf("Parse(%q): not placed", short(text))
	}
}

// deepFault is what is told of a file: the least place of a node that is too deep, all nodes looked at, if there is one.
func deepFault(t *testing.T, text string) (place int, e api.Errno) {
	t.Helper()
	tokens, _, _ := lexer.Tokens(text)
	p := parser{tokens: append(tokens, lexer.Token{From: len(text), To: len(text)})}
	root := p.file()
	checkTree(t, text, root)
	level := []api.Node{root}
	for depth := 1; len(level) > 0; depth++ {
		var below []api.Node
		for _, n := range level {
			if depth > 64 && (e == api.OK || n.At < place) {
				place, e = n.At, api.ErrLong
			}
			for _, kid := range n.Kids {
				if kid.Kind != api.NNone {
					below = append(below, kid)
				}
			}
		}
		level = below
	}
	return place, e
}

// checkError tells of a text that has another error than it should, or at another place.
func checkError(t *testing.T, text string, want int, wantE api.Errno) {
	t.Helper()
	if _, place, e := Parse(text); place != want || e != wantE {
		t.Errorf("Parse(%q): %d, %d, not %d, %d", short(text), place, e, want, wantE)
	}
	check(t, text)
}

// in is a text of a function of some statements.
func in(stmts string) string { return "package p; func f() { " + stmts + " }" }

// stmtsOf are the statements' trees of such a text.
func stmtsOf(t *testing.T, stmts string) []api.Node {
	t.Helper()
	n, e := check(t, in(stmts))
	if e != api.OK {
		t.Fatalf("Parse(%q): %d", in(stmts), e)
	}
	return n.Kids[0].Kids[3].Kids
}

// exprOf is an expression's tree.
func exprOf(t *testing.T, e string) api.Node {
	t.Helper()
	return stmtsOf(t, "return "+e)[0].Kids[0]
}

// shape is a tree's kinds and names.
func shape(n api.Node) string {
	s := fmt.Sprint(n.Kind) + n.Name
	if len(n.Kids) > 0 {
		var l []string
		for _, kid := range n.Kids {
			l = append(l, shape(kid))
		}
		s += "[" + strings.Join(l, " ") + "]"
	}
	return s
}

// checkMarked tells of a text that fails elsewhere than at the token behind $, which is no part of it.
func checkMarked(t *testing.T, text string) {
	t.Helper()
	ahead, behind, ok := strings.Cut(text, "$")
	if !ok {
		t.Fatalf("no $ in %s", text)
	}
	at := len(ahead) + len(behind) - len(strings.TrimLeft(behind, " "))
	checkError(t, ahead+behind, at, api.ErrForm)
}

// TestExamples: P11.1, the chapter's examples.
func TestExamples(t *testing.T) {
	n, e := check(t, "package p\n")
	if e != api.OK || n.Kind != api.NFile || n.From != 0 || n.To != 10 || n.At != 8 || n.Name != "p" || len(n.Kids) > 0 {
		t.Errorf("package p: %v, %d", n, e)
	}
	if got := shape(stmtsOf(t, "x = a + b * 2")[0].Kids[1]); got != "31+[25a 31*[25b 212]]" {
		t.Errorf("a + b * 2: %s", got)
	}
	if got := shape(stmtsOf(t, "if x {}")[0]); got != "14[25x 10 0]" {
		t.Errorf("if x {}: %s", got)
	}
	if got := shape(stmtsOf(t, "if (T{}) == y {}")[0]); got != "14[31==[33[28[8T]] 25y] 10 0]" {
		t.Errorf("if (T{}) == y {}: %s", got)
	}
	checkMarked(t, in("x $+ y"))
	checkMarked(t, in("f(a,$)"))
	checkMarked(t, in("{ 1 $= 2 }"))
	checkMarked(t, in("{ f()$(1) }"))
	checkMarked(t, in("{ $; }"))
	checkError(t, `package p; import "1"`, 18, api.ErrName)
}

// TestPlaces: P11.1, where nodes stand, and their At and Name, of a text in which all kinds are.
func TestPlaces(t *testing.T) {
	text := "// ahead\npackage p // c\nimport \"\\x67eo\"\ntype T struct {\n\ta int; b geo.U\n}\n" +
		"func (t T) f(c bool) string {\n\tvar v T = T{a: -1, b: geo.U{}}\n\tL: for i := 0; i < 9; i = i + 1 {\n\t\tbreak L\n\t}\n" +
		"\tfor { continue }\n\tif !c { t.a = 2.5 } else { v.f(1, true) }\n\tprint((\"s\"))\n\treturn\n}\n// behind"
	n, e := check(t, text)
	if e != api.OK {
		t.Fatalf("%d", e)
	}
	var got []string
	seen := map[int]bool{}
	for m := range ast.Each(n) {
		seen[m.Kind] = true
		got = append(got, fmt.Sprintf("%d %s|%s|%s", m.Kind, m.Name, strings.SplitN(text[m.At:m.To]+" ", " ", 2)[0], strings.Join(strings.Fields(text[m.From:m.To]), " ")))
	}
	for kind := api.NFile; kind <= api.NParen; kind++ {
		if !seen[kind] {
			t.Errorf("no node of kind %d", kind)
		}
	}
	for _, want := range []string{
		`2 geo|"\x67eo"|import "\x67eo"`,
		`3 T|T|type T struct { a int; b geo.U }`,
		`4 a|a|a int`, `4 b|b|b geo.U`, `8 int|int|int`, `9 U|U|geo.U`, `25 geo|geo|geo`,
		`7 t|t|t T`, `6 |(c|(c bool)`, `7 c|c|c bool`, `8 string|string|string`,
		`11 v|v|var v T = T{a: -1, b: geo.U{}}`, `28 |{a:|T{a: -1, b: geo.U{}}`, `29 a|a:|a: -1`, `30 -|-1|-1`, `28 |{}|geo.U{}`,
		`16 L|L:|L: for i := 0; i < 9; i = i + 1 { break L }`,
		`15 |for|for i := 0; i < 9; i = i + 1 { break L }`,
		`12 i|i|i := 0`, `31 <|<|i < 9`, `13 |=|i = i + 1`, `31 +|+|i + 1`, `17 L|L|break L`,
		`15 |for|for { continue }`, `18 |continue|continue`,
		`14 |if|if !c { t.a = 2.5 } else { v.f(1, true) }`, `30 !|!c|!c`, `10 |{|{ t.a = 2.5 }`, `13 |=|t.a = 2.5`, `26 a|a|t.a`, `22 2.5|2.5|2.5`,
		`20 |v.f(1,|v.f(1, true)`, `27 |(1,|v.f(1, true)`, `26 f|f|v.f`, `24 true|true|true`,
		`20 |print(("s"))|print(("s"))`, `32 print|print(("s"))|print(("s"))`, `33 |("s")|("s")`, `23 "s"|"s"|"s"`, `19 |return|return`,
	} {
		if !slices.Contains(got, want) {
			t.Errorf("no node %s", want)
		}
	}
	if n.From != 0 || n.To != len(text) || n.At != 17 || n.Name != "p" {
		t.Errorf("file: %d, %d, %d, %s", n.From, n.At, n.To, n.Name)
	}
}

// TestShapes: P11.1, what stands where in a tree, and what is not there.
func TestShapes(t *testing.T) {
	for _, c := range []struct{ stmt, want string }{
		{"for {}", "15[0 0 0 10]"},
		{"for a {}", "15[0 25a 0 10]"},
		{"for ; a ; {}", "15[0 25a 0 10]"},
		{"for ; ; {}", "15[0 0 0 10]"},
		{"for f() {}", "15[0 27[25f] 0 10]"},
		{"for f() ; ; {}", "15[20[27[25f]] 0 0 10]"},
		{"for a.b = 1 ; ; f() {}", "15[13[26b[25a] 211] 0 20[27[25f]] 10]"},
		{"for a := 1 ; ; b = 2 {}", "15[12a[211] 0 13[25b 212] 10]"},
		{"for a = 1\nb\nf() {}", "15[13[25a 211] 25b 20[27[25f]] 10]"},
		{"return", "19"},
		{"return a", "19[25a]"},
		{"break", "17"},
		{"continue a", "18a"},
		{"var a T", "11a[8T 0]"},
		{"var a p.T = b", "11a[9T[25p] 25b]"},
		{"var a = b", "11a[0 25b]"},
		{"if a {} else if b {} else {}", "14[25a 10 14[25b 10 10]]"},
		{"{}", "10"},
		{"{ {} ; }", "10[10]"},
		{"a: for {}", "16a[15[0 0 0 10]]"},
		{"T{}.f()", "20[27[26f[28[8T]]]]"},
		{"p.T{}.f()", "20[27[26f[28[9T[25p]]]]]"},
		{"1.f()", "20[27[26f[211]]]"},
		{"f().g()", "20[27[26g[27[25f]]]]"},
		{"(a).f()", "20[27[26f[33[25a]]]]"},
		{"panic(a)", "20[32panic[25a]]"},
		{"len(a).f()", "20[27[26f[32len[25a]]]]"},
	} {
		l := stmtsOf(t, c.stmt)
		if len(l) != 1 || shape(l[0]) != c.want {
			t.Errorf("%s: %s, not %s", c.stmt, shape(l[0]), c.want)
		}
	}
	for _, c := range []struct{ text, want string }{
		{"package p; func f() {}", "1p[5f[0 6 0 10]]"},
		{"package p; func (a T) f(b int, c p.T) U {}", "1p[5f[7a[8T] 6[7b[8int] 7c[9T[25p]]] 8U 10]]"},
		{"package p; type T struct {}", "1p[3T]"},
		{"package p; type T struct { a int\nb T; }", "1p[3T[4a[8int] 4b[8T]]]"},
		{"package p; import \"q\"; import \"q\"; type T struct { a int }; func f() {}", "1p[2q 2q 3T[4a[8int]] 5f[0 6 0 10]]"},
	} {
		if n, _ := check(t, c.text); shape(n) != c.want {
			t.Errorf("%s: %s, not %s", c.text, shape(n), c.want)
		}
	}
}

// TestOperators: P11.1, how each pair of operators binds, and those ahead.
func TestOperators(t *testing.T) {
	levels := [][]string{{"||"}, {"&&"}, {"==", "!=", "<", "<=", ">", ">="}, {"+", "-"}, {"*", "/", "%"}}
	for i, weak := range levels {
		for j, strong := range levels {
			for _, first := range weak {
				for _, second := range strong {
					want := fmt.Sprintf("31%s[31%s[25a 25b] 25c]", second, first)
					if i < j {
						want = fmt.Sprintf("31%s[25a 31%s[25b 25c]]", first, second)
					}
					if got := shape(exprOf(t, "a "+first+" b "+second+" c")); got != want {
						t.Errorf("a %s b %s c: %s", first, second, got)
					}
				}
			}
			if got, want := shape(exprOf(t, "-a "+weak[0]+" !b")), "31"+weak[0]+"[30-[25a] 30![25b]]"; got != want {
				t.Errorf("-a %s !b: %s", weak[0], got)
			}
		}
	}
	if got := shape(exprOf(t, "-!-a.b(c)")); got != "30-[30![30-[27[26b[25a] 25c]]]]" {
		t.Errorf("-!-a.b(c): %s", got)
	}
	if got := shape(exprOf(t, "a || b && c == d + e * -f * g + h == i && j || k")); got != "31||[31||[25a 31&&[31&&[25b 31==[31==[25c 31+[31+[25d 31*[31*[25e 30-[25f]] 25g]] 25h]] 25i]] 25j]] 25k]" {
		t.Errorf("all levels: %s", got)
	}
}

// badStmts are statements of which the token behind $ does not go on.
var badStmts = []string{
	// What stands alone is a call; what is assigned to is a path.
	"x$ ;", "x.y$ ;", "x.y.z $+ 1", "(x)$ ;", "(x) $= 1", "(x).y $= 1", "f().y $= 1", "f().y$ ;", "len(x)$ ;", "int(x) $= 1",
	"f() $= 1", "1$ ;", "true$ ;", "\"s\"$ ;", "T{}$ ;", "T{} $= 1", "T{}.a $= 1", "$- x", "$! x", "$+ x", "x.y $:= 1", "x $== 1",
	"x $, y = 1, 2", "x := 1 $:= 2", "print$ ;", "print $x", "print().x$ ;", "len $= 1", "float64 $.x", "int(1) $+ 2", "true $= 1",
	// What may be called, or be of a type's name.
	"T{}$()", "(f)$()", "1$()", "len(f)$()", "f()$()", "f().g()$()", "panic(x)$(y)", "x.f(1)$(2)", "a.b.T ${}",
	"f().T ${}", "(p).T ${}", "x = T{}${}", "x = 1 ${}",
	// Expressions, and what stands in brackets.
	"x = $;", "x = 1 +$ ;", "x = 1 + $* 2", "x = $= 1", "x = (1$;)", "x = ($)", "x = (1$, 2)", "x = (1$\n)", "x = $string(x)",
	"x = y.$len", "x = y.$1", "x.$;", "x = $struct", "f(a $b)", "f(a,$)", "f($,)", "f(a$; b)", "f(a$\n)", "f(a,$,b)", "f(a,\n$)",
	"T{a$}", "T{a: 1,$}", "T{$1: 2}", "T{a $= 1}", "x = T{a: 1$ ; }", "x = T{a: 1$\n}", "x = T{$, }", "x = T{a$.b: 1}",
	// Statements that begin with a word, and labels.
	"a: $x = 1", "a: $if x {}", "a: $a: for {}", "a: ${}", "a : $;", "a.b $: for {}", "break a$.b", "break $1",
	"continue a$()", "return a$, b", "return $var", "break $= 1", "var $1", "var a$ ;", "var a $:= 1", "var a int $+ 1", "var a p.$1",
	"var a$, b int", "var a T${}", "var a int$.b", "var a p.T$.u", "var a = 1 $:= 2", "var a = $;",
	// Heads.
	"if ${}", "if $;", "if x$ ; {}", "if x $:= 1 {}", "if x $= 1 {}", "if T{a: $1} {}", "if T{}$.a {}", "if p.T{} $== x {}", "if x {} $a",
	"if x {} else $x", "if x {}; $else {}", "if x {}\n$else {}", "if x {} else {} $else {}", "if f(T{}).g == T{} $&& x {}",
	"if -T{} $== x {}", "if x$\n{}", "for x $; ; {}", "for x + y $; ; {}", "for f() + 1 $; ; {}", "for -f() $; ; {}", "for (x) $= 1 ; ; {}",
	"for len(x) $; ; {}", "for x := 1 ${}", "for x = 1 ${}", "for ; ${}", "for ; x ${}", "for ; x $= 1 ; {}", "for ; ; x ${}",
	"for ; ; x $:= 1 {}", "for ; ; f() $; {}", "for ; ; $- x {}", "for ; ; x $+ 1 {}", "for x := T ${} ; ; {}", "for x.y $:= 1 ; ; {}",
	"for f(x).y $= 1 ; ; {}", "for ; ; T ${}.f() {}", "for ; T ${} ; {}", "for T{}$.f() ; ; {}", "for x = (T{}).a + T ${} ; ; {}",
	"for ; ; $; {}", "for x$\n{}", "for $var", "for a$: {}",
	// Between statements.
	"$; x = 1", "x = 1 ; $;", "x = 1 $y = 2", "{} ${}", "{} $x = 1", "{ $; }", "$) ", "$else {}", "$package p", "$type T struct {}",
	"$func g() {}", "$import \"q\"", "$struct", "$string(x)", "$bool(x)", "if x { y = 1 } $y = 2", "var a int $var b int",
}

// badFiles are texts of which the token behind $ does not go on.
var badFiles = []string{
	"$x", "$import \"q\"", "$;", "$func f() {}", "package $;", "package $for", "package $\"p\"", "package p $q", "package p$.q",
	"package p; $package p", "package p; $x", "package p; $var x int", "package p; $;", "package p\n$;", "package p; ${}",
	"package p; import $q", "package p; import \"q\" $\"r\"", "package p; import \"q\"$.r", "package p; import $;", "package p; import $(",
	"package p; type T struct {}; $import \"q\"", "package p; func f() {}; $import \"q\"",
	"package p; type $int struct {}", "package p; type T $T", "package p; type T $int", "package p; type T struct $;",
	"package p; type T struct { $; }", "package p; type T struct { a $, b int }", "package p; type T struct { a int $, b int }",
	"package p; type T struct { a$ ; }", "package p; type T struct { a int ; $; }", "package p; type T struct { a int $b int }",
	"package p; type T struct { $int }", "package p; type T struct { a $struct {} }", "package p; type T struct { a p.$int }",
	"package p; type T struct { a int } $type", "package p; type T struct { a int $= 1 }", "package p; type T struct { a p.q$.r }",
	"package p; type T struct { a int$.b }", "package p; type T$.U struct {}",
	"package p; func ($)", "package p; func (a$) f() {}", "package p; func (a $int) f() {}",
	"package p; func (a T$.U) f() {}", "package p; func (a T$, b T) f() {}", "package p; func (a T) $(", "package p; func (a T) f$ {}",
	"package p; func f(a$) {}", "package p; func f(a int$; b int) {}", "package p; func f(a int$\n) {}", "package p; func f(a int,$) {}",
	"package p; func f(a$, b int) {}", "package p; func f($int) {}", "package p; func f() $(int) {}", "package p; func f() int$, int {}",
	"package p; func f()$ ;", "package p; func f()$\n{}", "package p; func f() T.$ {}", "package p; func f() {} $func g() {}",
	"package p; func f() {} ; $}", "package p; func f() { } $}", "package p; func f() int $int {}", "package p; func f$.g() {}",
	"package p; func $for() {}", "package p; func f() T { $; }",
}

// TestMarks: P11.1, the first token that does not go on.
func TestMarks(t *testing.T) {
	for _, stmts := range badStmts {
		checkMarked(t, in(stmts))
	}
	for _, text := range badFiles {
		checkMarked(t, text)
	}
}

// TestEnd: P11.1, the text's end is a token: where all goes on up to it, the error is there.
func TestEnd(t *testing.T) {
	whole := "package p; import \"q\"; type T struct { a int }; func (t T) f(a int) int { if x { y = (1) } else { f() }; for a := 1; a < 2; f() { break }; return T{a: 1}.a }; // end"
	check(t, whole)
	for at := range whole {
		check(t, whole[:at])
		check(t, whole[:at]+"\n")
		check(t, whole[:at]+" /// ")
	}
	checkError(t, "", 0, api.ErrForm)
	checkError(t, "\n// c\n", 6, api.ErrForm)
	checkError(t, "package", 7, api.ErrForm)
	checkError(t, "package p; import  \n", 20, api.ErrForm)
}

// TestImports: P11.1, ErrName at an import's STRING.
func TestImports(t *testing.T) {
	for _, c := range []struct {
		literal string
		want    api.Errno
	}{
		{`"q"`, api.OK}, {`"\x71"`, api.OK}, {`"_q9"`, api.OK}, {`"` + strings.Repeat("n", 40) + `"`, api.OK},
		{`"` + strings.Repeat("n", 41) + `"`, api.ErrName}, {`""`, api.ErrName}, {`"_"`, api.ErrName}, {`"for"`, api.ErrName}, {`"q r"`, api.ErrName},
		{`"q "`, api.ErrName}, {`"\n"`, api.ErrName}, {`"q/r"`, api.ErrName}, {`"9"`, api.ErrName}, {`"\xff"`, api.ErrName}, {`"é"`, api.ErrName},
	} {
		text := "package p\nimport \"a\"\nimport " + c.literal
		if _, place, e := Parse(text); e != c.want || e != api.OK && place != 28 {
			t.Errorf("%s: %d, %d", text, place, e)
		}
		check(t, text)
		check(t, text+" x")
		check(t, text+"; x")
		check(t, "package p import "+c.literal)
		check(t, "package p; func f() {}; import "+c.literal)
		check(t, "package p; import x; import "+c.literal)
	}
	checkError(t, `package p; import "1"; import ; "`, 32, api.ErrForm)
	checkError(t, `package p; import "1"; x`, 18, api.ErrName)
	checkError(t, `package p; x; import "1"`, 11, api.ErrForm)
}

// TestLexer: P11.1, the tokens' errors come ahead of all.
func TestLexer(t *testing.T) {
	checkError(t, "x $", 2, api.ErrForm)
	checkError(t, "x 007", 2, api.ErrForm)
	checkError(t, "x _", 2, api.ErrName)
	checkError(t, "x \xff", 2, api.ErrUtf)
	checkError(t, "x 9223372036854775808", 2, api.ErrLong)
	checkError(t, "x"+strings.Repeat(" ", api.MaxText), api.MaxText, api.ErrLong)
	checkError(t, "x"+strings.Repeat(" ", api.MaxText-1), 0, api.ErrForm)
	checkError(t, strings.Repeat("(", 200)+"&", 200, api.ErrForm)
}

// nested are texts of brackets in one another, by what opens and closes one, around a middle.
var nested = []struct{ ahead, open, middle, close, behind string }{
	{"x = ", "(", "1", ")", ""},
	{"x = ", "f(", "", ")", ""},
	{"x = ", "len(", "1", ")", ""},
	{"x = ", "T{a: ", "1", "}", ""},
	{"", "{", "", "}", ""},
	{"", "for {", "", "}", ""},
	{"", "if x {} else {", "", "}", ""},
	{"if ", "(", "T{}", ")", " {}"},
	{"f(1, ", "f(2, ", "3", ")", ")"},
	{"x = ", "(a.b(T{c: ", "1", "}))", ""},
}

// TestBrackets: P11.1, the bracket that is open with 128 others.
func TestBrackets(t *testing.T) {
	t.Parallel()
	for _, by := range nested {
		deep := strings.Count(by.open, "(") + strings.Count(by.open, "{") - strings.Count(by.open, "{}")
		for _, many := range []int{10, 57, 58, 59, 60, 61, 62, 63, 64, 120/deep - 1, 124 / deep, 125 / deep, 126 / deep, 127 / deep, 127/deep + 1, 128 / deep, 128/deep + 1, 200, 300} {
			text := in(by.ahead + strings.Repeat(by.open, many) + by.middle + strings.Repeat(by.close, many) + by.behind)
			check(t, text)
			check(t, text+"x")
			check(t, text[:len(text)-many*len(by.close)-len(by.behind)-3])
		}
	}
	// Open are those of the function, too; params and receivers are closed again.
	head := "package p; func (a T) f(b int) {"
	for _, many := range []int{127, 128} {
		text := head + "x=" + strings.Repeat("(", many)
		want, wantE := len(text), api.ErrForm
		if many == 128 {
			want, wantE = len(text)-1, api.ErrLong
		}
		checkError(t, text, want, wantE)
		checkError(t, text+"&", len(text), api.ErrForm)
	}
	full := head + "x=" + strings.Repeat("(", 127)
	checkError(t, full+"{", len(full), api.ErrForm)
	checkError(t, full+"T{", len(full)+1, api.ErrLong)
	checkError(t, full+"1(", len(full)+1, api.ErrForm)
	checkError(t, full+"f(", len(full)+1, api.ErrLong)
	checkError(t, full+"len(", len(full)+3, api.ErrLong)
	checkError(t, full+")(", len(full), api.ErrForm)
	checkError(t, full+"1)+(", len(full)+4, api.ErrForm)
	checkError(t, full+"1)+((", len(full)+4, api.ErrLong)
}

// TestDepth: P11.1, the least At of the nodes that are too deep.
func TestDepth(t *testing.T) {
	t.Parallel()
	head := "package p; func f() { return "
	at := len(head)
	for _, c := range []struct {
		what, text string
		place      int
		want       api.Errno
	}{
		{"59 brackets", strings.Repeat("(", 59) + "x" + strings.Repeat(")", 59), 0, api.OK},
		{"60 brackets: what is in them", strings.Repeat("(", 60) + "x" + strings.Repeat(")", 60), at + 60, api.ErrLong},
		{"61 brackets: the last one", strings.Repeat("(", 61) + "x" + strings.Repeat(")", 61), at + 60, api.ErrLong},
		{"a sum: what stands ahead of its operator", strings.Repeat("(", 60) + "x + y" + strings.Repeat(")", 60), at + 60, api.ErrLong},
		{"a sum of which the right side alone is too deep", "x + " + strings.Repeat("(", 59) + "y" + strings.Repeat(")", 59), at + 4 + 59, api.ErrLong},
		{"two that are: the first one", "f(" + strings.Repeat("(", 60) + "x" + strings.Repeat(")", 60) + "," + strings.Repeat("(", 59) + "y" + strings.Repeat(")", 59) + ")", at + 2 + 59, api.ErrLong},
		{"two that are, the deepest one ahead", "f(" + strings.Repeat("(", 59) + "y" + strings.Repeat(")", 59) + "," + strings.Repeat("(", 63) + "x" + strings.Repeat(")", 63) + ")", at + 2 + 59, api.ErrLong},
		{"59 operators ahead", strings.Repeat("-", 59) + "x", 0, api.OK},
		{"60 operators ahead", strings.Repeat("-", 60) + "x", at + 60, api.ErrLong},
		{"a sum of 60", "x" + strings.Repeat("+x", 59), 0, api.OK},
		{"a sum of 61", "x" + strings.Repeat("+x", 60), at, api.ErrLong},
		{"59 selected", "x" + strings.Repeat(".y", 59), 0, api.OK},
		{"60 selected", "x" + strings.Repeat(".y", 60), at, api.ErrLong},
		{"60 calls", "x" + strings.Repeat(".y()", 30), at, api.ErrLong},
		{"a type of a literal", strings.Repeat("(", 58) + "p.T{}" + strings.Repeat(")", 58), at + 58, api.ErrLong},
		{"a type of a literal that is not too deep", strings.Repeat("(", 58) + "T{}" + strings.Repeat(")", 58), 0, api.OK},
		{"many of one depth", "f(" + strings.Repeat("x,", 500) + "x)", 0, api.OK},
	} {
		text := head + c.text + " }"
		if _, place, e := Parse(text); place != c.place || e != c.want {
			t.Errorf("%s: %d, %d, not %d, %d", c.what, place, e, c.place, c.want)
		}
		check(t, text)
	}
	checkError(t, head+strings.Repeat("-", 100)+"x )", at+102, api.ErrForm)
	elses := in("if x {}" + strings.Repeat(" else if x {}", 60))
	checkError(t, elses, strings.LastIndex(elses, "x"), api.ErrLong)
	loops := in(strings.Repeat("for {", 30) + "a = 1" + strings.Repeat("}", 30))
	checkError(t, loops, strings.Index(loops, "a = 1"), api.ErrLong)
}

// TestLong: P11.1, texts of as many bytes as may be, deep and broad: all calls end.
func TestLong(t *testing.T) {
	t.Parallel()
	many := api.MaxText - 40
	for _, c := range []struct {
		what, ahead, one, behind string
		want                     api.Errno
	}{
		{"operators ahead", "x = ", "-", "x", api.ErrLong},
		{"a sum", "x = x", "+x", "", api.ErrLong},
		{"operators of two levels", "x = x", "+x*x", "", api.ErrLong},
		{"selectors", "x", ".x", " = 1", api.ErrLong},
		{"calls", "x()", ".x()", "", api.ErrLong},
		{"elses", "if x {}", " else if x {}", "", api.ErrLong},
		{"statements", "", "x=1;", "", api.OK},
		{"arguments", "f(1", ",1", ")", api.OK},
		{"brackets", "x = ", "(", "", api.ErrLong},
		{"semicolons", "", ";", "", api.ErrForm},
	} {
		text := in(c.ahead + strings.Repeat(c.one, (many-len(c.ahead)-len(c.behind))/len(c.one)) + c.behind)
		if _, _, e := Parse(text); e != c.want {
			t.Errorf("%s: %d", c.what, e)
		}
	}
}

// TestNewMemory: names share no memory with the text, and no two lists of an answer share any.
func TestNewMemory(t *testing.T) {
	text := "package p; import \"q\"; type T struct { a q.U }; func (t T) f(a int) int { x := T{a: -1}.a; L: for { break L }; return f(x, 1.5) + len(\"s\") }"
	b := []byte(text)
	n, _, _ := Parse(unsafe.String(unsafe.SliceData(b), len(b)))
	want, _ := check(t, text)
	clear(b)
	if shape(n) != shape(want) {
		t.Errorf("%s, not %s", shape(n), shape(want))
	}
	seen := map[*api.Node]bool{}
	var meet func(n api.Node)
	meet = func(n api.Node) {
		if len(n.Kids) > 0 {
			if seen[&n.Kids[0]] {
				t.Errorf("a list of %s was met", n.Name)
			}
			seen[&n.Kids[0]] = true
		}
		_ = append(n.Kids, api.Node{Name: "spoiled"})
		for _, kid := range n.Kids {
			meet(kid)
		}
	}
	meet(n)
	if shape(n) != shape(want) {
		t.Errorf("%s, not %s, with something more in its lists", shape(n), shape(want))
	}
}

// vocabulary is each token that a text may have.
var vocabulary = strings.Fields(`a b T 1 2.5 "s" "q" break continue else false float64 for func if import int bool string len package panic print
	return struct true type var + - * / % == != < <= > >= && || ! := = ( ) { } , . : ; \n`)

// contexts are texts behind which tokens are tried.
var contexts = []string{
	"", "package p ;", "package p ; import", "package p ; type T struct {", "package p ; func", "package p ; func (", "package p ; func f (",
	"package p ; func f ( ) {", "package p ; func f ( ) { a", "package p ; func f ( ) { a . b", "package p ; func f ( ) { a = ", "package p ; func f ( ) { T {",
	"package p ; func f ( ) { if", "package p ; func f ( ) { for", "package p ; func f ( ) { for a", "package p ; func f ( ) { for ;", "package p ; func f ( ) { for ; ;",
	"package p ; func f ( ) { if a {}", "package p ; func f ( ) { var a", "package p ; func f ( ) { return ( a", "package p ; func f ( ) { if f (", "package p ; func f ( ) { if ( T",
	"package p ; func f ( ) { a ( )", "package p ; func f ( ) { print (", "package p ; func f ( ) { a :", "package p ; func f ( ) { for a . b", "package p ; func f ( ) { for a ( )",
}

// TestRows: P11.1, behind each of the contexts, all rows of tokens that go on, up to a length, and each token behind them.
func TestRows(t *testing.T) {
	for _, context := range contexts {
		t.Run(context, func(t *testing.T) {
			t.Parallel()
			l, _, _ := lexer.Tokens(context)
			if n := len(l); n > 0 && l[n-1].Kind == lexer.KSemi && l[n-1].Text == "" {
				l = l[:n-1]
			}
			s := start()
			for _, token := range l {
				if !s.step(token) {
					t.Fatalf("%s does not go on", context)
				}
			}
			walk(t, s, context, 2)
		})
	}
}

// walk tries each token behind a text that goes on, and goes on with those that do.
func walk(t *testing.T, s *sets, text string, more int) {
	for _, word := range vocabulary {
		if word == `\n` {
			continue
		}
		longer := text + " " + word
		l, _, _ := lexer.Tokens(longer)
		at := len(s.tokens)
		want, wantE := l[at].From, api.ErrForm
		goesOn := s.step(l[at])
		if goesOn {
			want, wantE = len(longer), api.ErrForm
			if modelE := modelTokenFault(s.tokens, at); modelE != api.OK {
				want, wantE = l[at].From, modelE
				goesOn = false
			} else if len(l) > at+1 && !s.step(l[at+1]) {
				want = l[at+1].From
			} else if s.whole() {
				want, wantE = 0, api.OK
			}
			if len(s.tokens) > at+1 {
				s.drop()
			}
		}
		if n, place, e := Parse(longer); place != want || e != wantE {
			t.Fatalf("Parse(%q): %d, %d, not %d, %d", longer, place, e, want, wantE)
		} else if e == api.OK {
			checkTree(t, longer, n)
		}
		if goesOn && more > 0 {
			walk(t, s, longer, more-1)
		}
		s.drop()
	}
}

// writer makes rows of tokens by the grammar.
type writer struct {
	r    *rand.Rand
	row  []string
	most int
}

// write makes what a symbol stands for; beyond a length it takes what is short.
func (w *writer) write(symbol string) {
	if isTerminal(symbol) {
		w.terminal(symbol)
		return
	}
	l := grammar[symbol]
	by := l[w.r.Intn(len(l))]
	if len(w.row) > w.most {
		by = slices.MinFunc(l, func(a, b production) int { return weight(a) - weight(b) })
	}
	for _, s := range by.row {
		w.write(s)
	}
}

// weights are of symbols that lead to long rows.
var weights = map[string]int{"e": 30, "block": 2, "chain": 5, "operand": 3, "literal": 8, "stmt": 50, "simple": 40, "call": 9, "define": 31, "for": 60, "if": 60, "var": 60, "func": 90, "type": 20}

func weight(p production) (n int) {
	for _, s := range p.row {
		n += 1 + weights[s]
		if s == p.name {
			n += 1000
		}
	}
	return n
}

func (w *writer) terminal(symbol string) {
	pick := func(l ...string) { w.row = append(w.row, l[w.r.Intn(len(l))]) }
	switch symbol {
	case "NAME":
		pick("a", "b", "T", "p")
	case "INT":
		pick("0", "12")
	case "FLOAT":
		pick("1.5")
	case "STRING":
		pick(`"q"`, `"s"`)
	case "OP":
		pick(strings.Fields(operators)...)
	case ";":
		pick(";", "\n")
	case `"call("`:
		pick("(")
	case `"lit{"`:
		pick("{")
	default:
		pick(strings.Trim(symbol, `"`))
	}
}

// laid is a row of tokens as a text, with blanks and comments between.
func laid(r *rand.Rand, row []string) string {
	var b strings.Builder
	for i, s := range row {
		b.WriteString(s)
		if s == "\n" {
			continue
		}
		switch r.Intn(12) {
		case 0:
			b.WriteString("\t \r")
		case 1:
			// Behind such a token none is put in.
			if strings.Contains("+-*/%=!<>&|:,.({;", s[len(s)-1:]) && i > 0 {
				b.WriteString("// c\n")
			}
		}
		b.WriteByte(' ')
	}
	return b.String()
}

// TestGrown: P11.1, P11.2, P11.3, files that the grammar makes, and such that are spoiled.
func TestGrown(t *testing.T) {
	told := map[api.Errno]int{}
	for seed := range 8 {
		t.Run(fmt.Sprint(seed), func(t *testing.T) {
			r := rand.New(rand.NewSource(int64(seed)))
			for range 400 {
				w := &writer{r: r, most: r.Intn(120)}
				w.write("file")
				if len(w.row) > 600 {
					continue
				}
				row := mend(w.row)
				text := laid(r, row)
				_, e := check(t, text)
				told[e]++
				checkAlone(t, text)
				for range 3 {
					_, e := check(t, laid(r, spoil(r, row)))
					told[e]++
				}
			}
		})
	}
	if told[api.OK] < 1000 || told[api.ErrForm] < 3000 {
		t.Errorf("too few of a sort: %v", told)
	}
}

// mend is a row up to where the chapter's words rule out what the grammar makes.
func mend(row []string) []string {
	s := start()
	for i, word := range row {
		token := lexer.Token{Kind: lexer.KSemi}
		if word != "\n" {
			l, _, _ := lexer.Tokens(word)
			token = l[0]
		}
		if !s.step(token) {
			return row[:i]
		}
	}
	return row
}

// spoil changes a token or two of a row.
func spoil(r *rand.Rand, row []string) []string {
	row = slices.Clone(row)
	for range 1 + r.Intn(2) {
		if len(row) < 2 {
			break
		}
		at := r.Intn(len(row))
		word := vocabulary[r.Intn(len(vocabulary))]
		if word == `\n` {
			word = "\n"
		}
		switch r.Intn(5) {
		case 0:
			row = slices.Delete(row, at, at+1)
		case 1:
			row = slices.Insert(row, at, word)
		case 2:
			row[at] = word
		case 3:
			other := r.Intn(len(row))
			row[at], row[other] = row[other], row[at]
		case 4:
			row = row[:at+1]
		}
	}
	return row
}

// checkAlone: P11.3, expressions and statements of a text that is a file, each in a function of its own.
func checkAlone(t *testing.T, text string) {
	t.Helper()
	n, _, e := Parse(text)
	if e != api.OK {
		return
	}
	alone := func(m api.Node, text string) {
		t.Helper()
		if own, _, e := Parse(text); e != api.OK || !ast.Same(own.Kids[0].Kids[3].Kids[0], m) {
			t.Fatalf("%q: %d, not the same tree", text, e)
		}
	}
	for m := range ast.Each(n) {
		if m.Kind == api.NBlock {
			for _, stmt := range m.Kids {
				alone(stmt, "package p\nfunc f() {\n"+text[stmt.From:stmt.To]+"\n}\n")
			}
		}
		if m.Kind >= api.NInt && m.Kind != api.NKeyed {
			alone(api.Node{Kind: api.NReturn, Kids: []api.Node{m}}, "package p\nfunc f() {\nreturn "+text[m.From:m.To]+"\n}\n")
		}
	}
}
