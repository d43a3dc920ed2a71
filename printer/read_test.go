package printer

import (
	"math/rand"
	"strings"
	"testing"

	"emend/api"
	"emend/ast"
	"emend/lexer"
	"emend/parser"
)

// spread is a text of the same tokens in another layout: blanks, lines' ends and comments between them, semicolons that
// are written or left out where the grammar lets them be.
func spread(r *rand.Rand, text string) string {
	tokens, _, _ := lexer.Tokens(text)
	m := maker{r}
	var b strings.Builder
	for at, t := range tokens {
		switch {
		case t.Kind != lexer.KSemi:
			b.WriteString(t.Text)
		case t.Text == ";":
			b.WriteString(";")
		case at+1 < len(tokens) && tokens[at+1].Text == "}":
			b.WriteString(m.pick("", " ", ";", "\n", " // }\n", "; // c\n", "\r\n\r\n"))
		case at+1 == len(tokens):
			b.WriteString(m.pick("", ";", "\n", " // no end"))
			continue
		default:
			b.WriteString(m.pick(";", "\n", ";\n", " ; ", "\n\n\t// c\n", "// ;\n", "\r\n"))
		}
		endsNoLine := t.Kind == lexer.KWord && strings.Contains(" if for else func struct import package type var ", " "+t.Text+" ") ||
			t.Kind == lexer.KMark && t.Text != ")" && t.Text != "}" || t.Kind == lexer.KSemi
		switch {
		case endsNoLine && r.Intn(4) == 0:
			b.WriteString(m.pick("\n", " \n\n", " // if {\n", "\r\n\t"))
		case t.Kind == lexer.KMark && strings.Contains("(){},", t.Text) && r.Intn(2) == 0:
		default:
			b.WriteString(m.pick(" ", "  ", "\t", "\r"))
		}
	}
	return b.String()
}

// TestSpread: P12.3, texts in any layout: what is told of their tree is read as the same tree, and is its own tree's text.
func TestSpread(t *testing.T) {
	t.Parallel()
	r := rand.New(rand.NewSource(125))
	for range 3000 {
		n := maker{r}.file(1 + r.Intn(5))
		own, _ := check(t, n)
		text := spread(r, own)
		back, place, e := parser.Parse(text)
		if e == api.ErrLong && len(text) > 65536 {
			continue
		}
		if e != api.OK || !ast.Same(back, n) {
			t.Fatalf("Parse of %q: %d at %d, or another tree than of %q", text, e, place, own)
		}
		if s, e := check(t, back); e != api.OK || s != own {
			t.Fatalf("Text of %q: %q, %d, not %q", short(text), short(s), e, short(own))
		}
	}
}

// TestOwn: P12.3, a program as it may be written.
func TestOwn(t *testing.T) {
	t.Parallel()
	text := "// ahead\r\n\r\npackage  p // c\nimport \"\\x67eo\"\n\n\n" +
		"type T struct { a int; b geo.U; }\n\n" +
		"func (t T) f(c bool,d T)string{var v T=T{a:- 1,b:geo.U{}}\n\tL: for i := 0;i<9;i=i+1 { break L; }\n" +
		"for ; c; { continue }\n\tif !c { t.a = 2.5 } else { v.f(1,true) }\n\tprint((\"s // {\"))\n\n\n\treturn\n}\n// behind"
	want := `package p/import "geo"/type T struct {/>a int/>b geo.U/}/` +
		`func (t T) f(c bool, d T) string {/>var v T = T{a: -1, b: geo.U{}}/>L: for i := 0; i < 9; i = i + 1 {/>>break L/>}/` +
		`>for c {/>>continue/>}/>if !c {/>>t.a = 2.5/>} else {/>>v.f(1, true)/>}/>print(("s `
	n := read(t, text)
	s, e := check(t, n)
	want = strings.NewReplacer("/", "\n", ">", "\t").Replace(want) + "// {\"))\n\treturn\n}\n"
	if e != api.OK || s != want {
		t.Fatalf("Text: %q, %d, not %q", s, e, want)
	}
	if again, e := check(t, read(t, s)); e != api.OK || again != s {
		t.Errorf("Text of its own text: %q, %d", again, e)
	}
}

// TestLonger: P12.3 ends where P12.1's bound is: a short text may have a tree whose text is too long.
func TestLonger(t *testing.T) {
	t.Parallel()
	text := "package p;func f(){" + strings.Repeat("{", 60) + strings.Repeat("break;", 1200) + strings.Repeat("}", 61)
	if s, e := check(t, read(t, text)); e != api.ErrLong || s != "" {
		t.Errorf("%d", e)
	}
}
