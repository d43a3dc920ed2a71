package printer

import (
	"math/rand"
	"strings"
	"text/template"

	"emend/api"
)

// The model puts the texts of a node's children, which were made ahead of it, into its kind's text of the chapter's
// table. What lies in a block or a struct gets its tabs when that is closed.

// forms is the chapter's table: a kind, and its text. in puts a part onto a line of its own, one tab further in; row
// puts blanks and commas between.
const forms = `
NFile package {Name}/{range .Kids}{.}/{end}
NImport import "{Name}"
NType type {Name} struct <{range .Kids}{in .}{end}/>
NField {Name} {K 0}
NFunc func {with K 0}({.}) {end}{Name}({K 1}){with K 2} {.}{end} {K 3}
NParams {row .Kids}
NParam {Name} {K 0}
NTypeName {Name}
NTypeSel {K 0}.{Name}
NBlock <{range .Kids}{in .}{end}/>
NVar var {Name}{with K 0} {.}{end}{with K 1} = {.}{end}
NDefine {Name} := {K 0}
NAssign {K 0} = {K 1}
NIf if {K 0} {K 1}{with K 2} else {.}{end}
NFor for {if or (K 0) (K 2)}{K 0};{with K 1} {.}{end};{with K 2} {.}{end} {else}{with K 1}{.} {end}{end}{K 3}
NLabel {Name}: {K 0}
NBreak break{with Name} {.}{end}
NContinue continue{with Name} {.}{end}
NReturn return{range .Kids} {.}{end}
NCallStmt {K 0}
NInt {Name}
NFloat {Name}
NString {Name}
NBool {Name}
NIdent {Name}
NSel {K 0}.{Name}
NCall {K 0}({row (slice .Kids 1)})
NLit {K 0}<{row (slice .Kids 1)}>
NKeyed {Name}: {K 0}
NUnary {Name}{K 0}
NBinary {K 0} {Name} {K 1}
NBuiltin {Name}({row .Kids})
NParen ({K 0})`

// made is a node of which its children's texts are known.
type made struct {
	Name string
	Kids []string
}

// formOf are the table's rows, by kinds: they stand in the order of api's kinds.
var formOf = readForms()

func readForms() []*template.Template {
	l := []*template.Template{nil}
	functions := template.FuncMap{
		"in":  func(s string) string { return "\n\t" + strings.ReplaceAll(s, "\n", "\n\t") },
		"row": func(l []string) string { return strings.Join(l, ", ") },
	}
	spelt := strings.NewReplacer("{Name}", "{.Name}", "with Name", "with .Name", "K 0", "index .Kids 0", "K 1", "index .Kids 1",
		"K 2", "index .Kids 2", "K 3", "index .Kids 3", "<", "{print `{`}", ">", "{print `}`}", "/", "\n")
	for line := range strings.Lines(strings.TrimSpace(forms)) {
		kind, text, _ := strings.Cut(strings.TrimSuffix(line, "\n"), " ")
		l = append(l, template.Must(template.New(kind).Delims("{", "}").Funcs(functions).Parse(spelt.Replace(text))))
	}
	return l
}

// modelText is the text of a tree that the grammar makes, however long.
func modelText(n api.Node) string {
	if n.Kind == api.NNone {
		return ""
	}
	m := made{Name: n.Name}
	for _, kid := range n.Kids {
		m.Kids = append(m.Kids, modelText(kid))
	}
	var text strings.Builder
	if err := formOf[n.Kind].Execute(&text, m); err != nil {
		panic(err)
	}
	return text.String()
}

// maker makes trees of the grammar.
type maker struct{ *rand.Rand }

// pick is one of some texts.
func (m maker) pick(l ...string) string { return l[m.Intn(len(l))] }

// name is one that may be given.
func (m maker) name() string {
	return m.pick("x", "y", "T", "U", "f", "e5", "_a9", "packages", strings.Repeat("n", 40))
}

// many is up to three trees that a function makes.
func (m maker) many(one func() api.Node) (l []api.Node) {
	for range m.Intn(4) {
		l = append(l, one())
	}
	return l
}

// maybe is a tree that a function makes, or nothing.
func (m maker) maybe(one func() api.Node) api.Node {
	if m.Intn(2) == 0 {
		return none
	}
	return one()
}

// file makes a tree of about such a depth.
func (m maker) file(deep int) api.Node {
	l := m.many(func() api.Node { return node(api.NImport, m.name()) })
	l = append(l, m.many(func() api.Node { return m.decl(deep) })...)
	return node(api.NFile, m.name(), l...)
}

func (m maker) decl(deep int) api.Node {
	if m.Intn(4) == 0 {
		return node(api.NType, m.name(), m.many(m.field)...)
	}
	receiver := func() api.Node { return node(api.NParam, m.name(), m.ownType()) }
	params := m.many(func() api.Node { return node(api.NParam, m.name(), m.typ()) })
	return node(api.NFunc, m.name(), m.maybe(receiver), node(api.NParams, "", params...), m.maybe(m.typ), m.block(deep))
}

func (m maker) field() api.Node { return node(api.NField, m.name(), m.typ()) }

func (m maker) ownType() api.Node { return node(api.NTypeName, m.name()) }

func (m maker) farType() api.Node { return node(api.NTypeSel, m.name(), ident(m.name())) }

func (m maker) typ() api.Node {
	switch m.Intn(3) {
	case 0:
		return m.farType()
	case 1:
		return m.ownType()
	}
	return node(api.NTypeName, m.pick("int", "bool", "string", "float64"))
}

func (m maker) block(deep int) api.Node {
	if deep <= 0 {
		return node(api.NBlock, "")
	}
	return node(api.NBlock, "", m.many(func() api.Node { return m.stmt(deep - 1) })...)
}

func (m maker) stmt(deep int) api.Node {
	e := func() api.Node { return m.expr(deep, 1, false) }
	switch m.Intn(10) {
	case 0:
		if m.Intn(3) == 0 {
			return node(api.NVar, m.name(), m.typ(), none)
		}
		return node(api.NVar, m.name(), m.maybe(m.typ), e())
	case 1:
		return m.block(deep)
	case 2, 3:
		return m.condition(deep)
	case 4:
		return m.loop(deep)
	case 5:
		return node(api.NLabel, m.name(), m.loop(deep))
	case 6:
		return node(api.NBreak+m.Intn(2), m.pick("", m.name()))
	case 7:
		return node(api.NReturn, "")
	case 8:
		return node(api.NReturn, "", e())
	}
	return m.simple(deep, false, true)
}

func (m maker) condition(deep int) api.Node {
	other := func() api.Node {
		if m.Intn(2) == 0 {
			return m.block(deep)
		}
		return m.condition(deep - 1)
	}
	if deep <= 0 {
		other = func() api.Node { return node(api.NBlock, "") }
	}
	return node(api.NIf, "", m.expr(deep, 1, true), m.block(deep), m.maybe(other))
}

func (m maker) loop(deep int) api.Node {
	first := m.maybe(func() api.Node { return m.simple(deep, true, true) })
	e := m.maybe(func() api.Node { return m.expr(deep, 1, true) })
	last := m.maybe(func() api.Node { return m.simple(deep, true, false) })
	return node(api.NFor, "", first, e, last, m.block(deep))
}

// simple is a statement that may stand in a head, too.
func (m maker) simple(deep int, head, defines bool) api.Node {
	switch k := m.Intn(3); {
	case k == 0 && defines:
		return node(api.NDefine, m.name(), m.expr(deep, 1, head))
	case k <= 1:
		path := ident(m.name())
		for range m.Intn(3) {
			path = node(api.NSel, m.name(), path)
		}
		return node(api.NAssign, "", path, m.expr(deep, 1, head))
	}
	if m.Intn(2) == 0 {
		return node(api.NCallStmt, "", node(api.NBuiltin, m.pick("print", "panic"), m.args(deep)...))
	}
	return node(api.NCallStmt, "", m.call(deep, head))
}

func (m maker) args(deep int) []api.Node {
	return m.many(func() api.Node { return m.expr(deep-1, 1, false) })
}

func (m maker) call(deep int, head bool) api.Node {
	called := ident(m.name())
	if m.Intn(2) == 0 {
		called = node(api.NSel, m.name(), m.expr(deep-1, 7, head))
	}
	return node(api.NCall, "", append([]api.Node{called}, m.args(deep)...)...)
}

// expr makes an expression of a level, or of a higher one.
func (m maker) expr(deep, level int, head bool) api.Node {
	if deep <= 0 {
		return m.leaf()
	}
	if level == 7 || m.Intn(3) == 0 {
		return m.operand(deep, head)
	}
	operators := [][]string{1: {"||"}, {"&&"}, {"==", "!=", "<", "<=", ">", ">="}, {"+", "-"}, {"*", "/", "%"}, {"-", "!"}}
	k := level + m.Intn(7-level)
	if k == 6 {
		return node(api.NUnary, m.pick(operators[k]...), m.expr(deep-1, 6, head))
	}
	return node(api.NBinary, m.pick(operators[k]...), m.expr(deep-1, k, head), m.expr(deep-1, k+1, head))
}

func (m maker) operand(deep int, head bool) api.Node {
	switch m.Intn(6) {
	case 0:
		return node(api.NParen, "", m.expr(deep-1, 1, false))
	case 1:
		return node(api.NSel, m.name(), m.expr(deep-1, 7, head))
	case 2:
		return m.call(deep, head)
	case 3:
		return node(api.NBuiltin, m.pick("int", "float64", "len", "print", "panic"), m.args(deep)...)
	case 4:
		if !head {
			return m.literal(deep)
		}
	}
	return m.leaf()
}

func (m maker) literal(deep int) api.Node {
	typ := m.ownType()
	if m.Intn(2) == 0 {
		typ = m.farType()
	}
	keyed := m.many(func() api.Node { return node(api.NKeyed, m.name(), m.expr(deep-1, 1, false)) })
	return node(api.NLit, "", append([]api.Node{typ}, keyed...)...)
}

func (m maker) leaf() api.Node {
	switch m.Intn(5) {
	case 0:
		return node(api.NInt, m.pick("0", "1", "9223372036854775807"))
	case 1:
		return node(api.NFloat, m.pick("0.0", "1.5", "12.25e-007", "2.5e3"))
	case 2:
		return node(api.NString, m.pick(`""`, `"a b"`, `"\n\t\\\"\x0a"`, `"é"`, `"// {"`, `"}"`))
	case 3:
		return node(api.NBool, m.pick("true", "false"))
	}
	return ident(m.name())
}
