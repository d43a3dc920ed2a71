package parser

import (
	"fmt"
	"strings"

	"emend/api"
	"emend/lexer"
)

// matcher goes along a text's tokens as a tree says what they are, and tells where both differ. With ast.Check, by which
// the grammar makes the tree, there is just one tree for which it finds nothing.
type matcher struct {
	tokens []lexer.Token
	at     int
	wrong  []string
}

// mismatch is what is wrong with a tree of a text, or nothing.
func mismatch(n api.Node, text string) string {
	tokens, _, _ := lexer.Tokens(text)
	m := &matcher{tokens: tokens}
	m.file(n, len(text))
	if m.at != len(tokens) {
		m.differ("tokens are left")
	}
	return strings.Join(m.wrong, "; ")
}

func (m *matcher) differ(what string, a ...any) {
	if len(m.wrong) < 5 {
		m.wrong = append(m.wrong, fmt.Sprintf(what, a...)+" at token "+fmt.Sprint(m.at))
	}
}

// peek is the text of the next token but some, ; of a semicolon.
func (m *matcher) peek() string {
	if m.at >= len(m.tokens) {
		return ""
	}
	if m.tokens[m.at].Kind == lexer.KSemi {
		return ";"
	}
	return m.tokens[m.at].Text
}

// eat passes tokens by, which must be these, and tells where the last of them begins.
func (m *matcher) eat(texts ...string) (from int) {
	for _, text := range texts {
		if m.peek() != text {
			m.differ("%q, not %q", m.peek(), text)
		}
		if m.at < len(m.tokens) {
			from = m.tokens[m.at].From
			m.at++
		}
	}
	return from
}

// maybe passes a token by, if it is this one.
func (m *matcher) maybe(text string) {
	if m.peek() == text {
		m.at++
	}
}

// node holds a node's places against those tokens that a function passes by; it tells where At should be.
func (m *matcher) node(n api.Node, tokens func() int) {
	first := m.at
	at := tokens()
	if m.at > len(m.tokens) || m.at == first {
		m.differ("no tokens of kind %d", n.Kind)
		return
	}
	if n.From != m.tokens[first].From || n.To != m.tokens[m.at-1].To || n.At != at {
		m.differ("kind %d %q: %d, %d, %d, not %d, %d, %d", n.Kind, n.Name, n.From, n.At, n.To, m.tokens[first].From, at, m.tokens[m.at-1].To)
	}
}

func (m *matcher) file(n api.Node, size int) {
	m.eat("package")
	if at := m.eat(n.Name); n.Kind != api.NFile || n.From != 0 || n.To != size || n.At != at {
		m.differ("file %d, %d, %d", n.From, n.At, n.To)
	}
	m.eat(";")
	for _, kid := range n.Kids {
		switch kid.Kind {
		case api.NImport:
			m.imported(kid)
		case api.NType:
			m.structType(kid)
		default:
			m.function(kid)
		}
		m.eat(";")
	}
}

func (m *matcher) imported(n api.Node) {
	m.node(n, func() int {
		m.eat("import")
		if value, _ := lexer.Value(m.peek()); value != n.Name {
			m.differ("import %q", n.Name)
		}
		return m.eat(m.peek())
	})
}

func (m *matcher) structType(n api.Node) {
	m.node(n, func() int {
		m.eat("type")
		at := m.eat(n.Name)
		m.eat("struct")
		m.lines(n.Kids, m.nameAndType)
		return at
	})
}

// lines are what stands in braces.
func (m *matcher) lines(l []api.Node, one func(api.Node)) {
	m.eat("{")
	for i, n := range l {
		one(n)
		if i < len(l)-1 {
			m.eat(";")
		} else {
			m.maybe(";")
		}
	}
	m.eat("}")
}

// row is what stands between two marks.
func (m *matcher) row(from string, l []api.Node, to string, one func(api.Node)) (at int) {
	at = m.eat(from)
	for i, n := range l {
		if i > 0 {
			m.eat(",")
		}
		one(n)
	}
	m.eat(to)
	return at
}

// nameAndType is a field, a param or a receiver.
func (m *matcher) nameAndType(n api.Node) {
	m.node(n, func() int {
		at := m.eat(n.Name)
		m.typ(n.Kids[0])
		return at
	})
}

func (m *matcher) typ(n api.Node) {
	m.node(n, func() int {
		if n.Kind == api.NTypeSel {
			m.expr(n.Kids[0])
			m.eat(".")
		}
		return m.eat(n.Name)
	})
}

func (m *matcher) function(n api.Node) {
	receiver, params, result, block := n.Kids[0], n.Kids[1], n.Kids[2], n.Kids[3]
	m.node(n, func() int {
		m.eat("func")
		if receiver.Kind != api.NNone {
			m.row("(", n.Kids[:1], ")", m.nameAndType)
		}
		at := m.eat(n.Name)
		m.node(params, func() int { return m.row("(", params.Kids, ")", m.nameAndType) })
		if result.Kind != api.NNone {
			m.typ(result)
		}
		m.stmt(block)
		return at
	})
}

func (m *matcher) stmt(n api.Node) {
	m.node(n, func() int {
		switch n.Kind {
		case api.NBlock:
			at := m.tokens[m.at].From
			m.lines(n.Kids, m.stmt)
			return at
		case api.NVar:
			return m.variable(n)
		case api.NDefine:
			at := m.eat(n.Name)
			m.eat(":=")
			m.expr(n.Kids[0])
			return at
		case api.NAssign:
			m.expr(n.Kids[0])
			at := m.eat("=")
			m.expr(n.Kids[1])
			return at
		case api.NIf:
			return m.condition(n)
		case api.NFor:
			return m.loop(n)
		case api.NLabel:
			at := m.eat(n.Name)
			m.eat(":")
			m.stmt(n.Kids[0])
			return at
		case api.NBreak, api.NContinue, api.NReturn:
			return m.leave(n)
		}
		at := m.tokens[m.at].From
		m.expr(n.Kids[0])
		return at
	})
}

func (m *matcher) variable(n api.Node) int {
	m.eat("var")
	at := m.eat(n.Name)
	if n.Kids[0].Kind != api.NNone {
		m.typ(n.Kids[0])
	}
	if n.Kids[1].Kind != api.NNone {
		m.eat("=")
		m.expr(n.Kids[1])
	}
	return at
}

func (m *matcher) condition(n api.Node) int {
	at := m.eat("if")
	m.expr(n.Kids[0])
	m.stmt(n.Kids[1])
	if n.Kids[2].Kind != api.NNone {
		m.eat("else")
		m.stmt(n.Kids[2])
	}
	return at
}

// loop is a for: what it has alone may stand without semicolons.
func (m *matcher) loop(n api.Node) int {
	at := m.eat("for")
	there := func(i int) bool { return n.Kids[i].Kind != api.NNone }
	if there(0) {
		m.stmt(n.Kids[0])
	}
	long := there(0) || there(2) || m.peek() == ";"
	if long {
		m.eat(";")
	}
	if there(1) {
		m.expr(n.Kids[1])
	}
	if long {
		m.eat(";")
	}
	if there(2) {
		m.stmt(n.Kids[2])
	}
	m.stmt(n.Kids[3])
	return at
}

// leave is a break, a continue or a return.
func (m *matcher) leave(n api.Node) int {
	at := m.eat(map[int]string{api.NBreak: "break", api.NContinue: "continue", api.NReturn: "return"}[n.Kind])
	if n.Name != "" {
		at = m.eat(n.Name)
	}
	for _, kid := range n.Kids {
		m.expr(kid)
	}
	return at
}

func (m *matcher) expr(n api.Node) {
	m.node(n, func() int {
		switch n.Kind {
		case api.NSel:
			m.expr(n.Kids[0])
			m.eat(".")
			return m.eat(n.Name)
		case api.NCall:
			m.expr(n.Kids[0])
			return m.row("(", n.Kids[1:], ")", m.expr)
		case api.NLit:
			m.typ(n.Kids[0])
			return m.row("{", n.Kids[1:], "}", m.keyed)
		case api.NUnary:
			at := m.eat(n.Name)
			m.expr(n.Kids[0])
			return at
		case api.NBinary:
			m.expr(n.Kids[0])
			at := m.eat(n.Name)
			m.expr(n.Kids[1])
			return at
		case api.NBuiltin:
			at := m.eat(n.Name)
			m.row("(", n.Kids, ")", m.expr)
			return at
		case api.NParen:
			return m.row("(", n.Kids, ")", m.expr)
		}
		return m.eat(n.Name)
	})
}

func (m *matcher) keyed(n api.Node) {
	m.node(n, func() int {
		at := m.eat(n.Name)
		m.eat(":")
		m.expr(n.Kids[0])
		return at
	})
}
