package parser

import (
	"emend/api"
	"emend/lexer"
)

// expr is an expression.
func (p *parser) expr() api.Node { return p.binary(1) }

// binary is an expression of operators that bind at least as strongly as a level says.
func (p *parser) binary(least int) api.Node {
	e := p.unary()
	for {
		op := p.token()
		level := levelOf(op.Text)
		if level < least {
			return e
		}
		p.next()
		right := p.binary(level + 1)
		e = p.made(api.NBinary, e.From, op.From, op.Text, e, right)
	}
}

// levelOf is how strongly an operator between two expressions binds; what is none does not.
func levelOf(op string) int {
	switch op {
	case "||":
		return 1
	case "&&":
		return 2
	case "==", "!=", "<", "<=", ">", ">=":
		return 3
	case "+", "-":
		return 4
	case "*", "/", "%":
		return 5
	}
	return 0
}

// unary is a chain, with the operators ahead of it.
func (p *parser) unary() api.Node {
	if !p.stands("-") && !p.stands("!") {
		return p.chain()
	}
	op := p.next()
	e := p.unary()
	return p.made(api.NUnary, op.From, op.From, op.Text, e)
}

// chain is an operand, with what is selected and called behind it.
func (p *parser) chain() api.Node {
	e := p.operand()
	for {
		switch {
		case p.passed("."):
			name := p.takeKind(lexer.KName)
			e = p.made(api.NSel, e.From, name.From, name.Text, e)
		case p.stands("(") && isNamed(e):
			at := p.token().From
			kids := append([]api.Node{e}, p.args()...)
			e = p.made(api.NCall, e.From, at, "", kids...)
		case p.stands("{") && isTypes(e) && p.open != p.head:
			e = p.literal(e)
		default:
			return e
		}
	}
}

// isNamed tells whether an expression is a name, or ends with one that is selected.
func isNamed(e api.Node) bool { return e.Kind == api.NIdent || e.Kind == api.NSel }

// isTypes tells whether an expression may be a type's name.
func isTypes(e api.Node) bool {
	return e.Kind == api.NIdent || e.Kind == api.NSel && e.Kids[0].Kind == api.NIdent
}

// literal is a struct's, of the type that was read as an expression: the brace behind it tells what it is.
func (p *parser) literal(typ api.Node) api.Node {
	if typ.Kind == api.NIdent {
		typ.Kind = api.NTypeName
	} else {
		typ.Kind = api.NTypeSel
	}
	at := p.token().From
	keyed := p.row("{", "}", p.keyed)
	kids := append([]api.Node{typ}, keyed...)
	return p.made(api.NLit, typ.From, at, "", kids...)
}

// keyed is a field's name, and an expression.
func (p *parser) keyed() api.Node {
	name := p.takeKind(lexer.KName)
	p.take(":")
	e := p.expr()
	return p.made(api.NKeyed, name.From, name.From, name.Text, e)
}

// args are those of a call.
func (p *parser) args() []api.Node { return p.row("(", ")", p.expr) }

// operand is what a chain begins with.
func (p *parser) operand() api.Node {
	switch t := p.token(); t.Kind {
	case lexer.KInt:
		return p.leaf(api.NInt)
	case lexer.KFloat:
		return p.leaf(api.NFloat)
	case lexer.KString:
		return p.leaf(api.NString)
	case lexer.KName:
		return p.leaf(api.NIdent)
	}
	switch t := p.token(); t.Text {
	case "true", "false":
		return p.leaf(api.NBool)
	case "int", "float64", "len", "print", "panic":
		p.next()
		l := p.args()
		return p.made(api.NBuiltin, t.From, t.From, t.Text, l...)
	}
	from := p.begin("(").From
	e := p.expr()
	p.finish(")")
	return p.made(api.NParen, from, from, "", e)
}

// leaf is a node of one token.
func (p *parser) leaf(kind int) api.Node {
	t := p.next()
	return p.made(kind, t.From, t.From, t.Text)
}
