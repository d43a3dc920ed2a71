package parser

import (
	"emend/api"
	"emend/lexer"
)

// block is some statements in braces.
func (p *parser) block() api.Node {
	from := p.token().From
	l := p.lines(p.stmt)
	return p.made(api.NBlock, from, from, "", l...)
}

// stmt is a statement of a block.
func (p *parser) stmt() api.Node {
	switch p.token().Text {
	case "{":
		return p.block()
	case "if":
		return p.condition()
	case "for":
		return p.loop()
	case "var":
		return p.variable()
	case "return":
		return p.returned()
	case "break":
		return p.jump(api.NBreak)
	case "continue":
		return p.jump(api.NContinue)
	}
	switch {
	case p.nameStands(":"):
		return p.labelled()
	case p.nameStands(":="):
		return p.define()
	}
	return p.simple(p.chain())
}

// variable declares one.
func (p *parser) variable() api.Node {
	from := p.take("var").From
	name := p.takeKind(lexer.KName)
	var typ, e api.Node
	if !p.stands("=") {
		typ = p.typ()
	}
	if p.passed("=") {
		e = p.expr()
	}
	return p.made(api.NVar, from, name.From, name.Text, typ, e)
}

// returned is a return, with what it returns, if there is something.
func (p *parser) returned() api.Node {
	from := p.take("return").From
	if p.standsKind(lexer.KSemi) || p.stands("}") {
		return p.made(api.NReturn, from, from, "")
	}
	e := p.expr()
	return p.made(api.NReturn, from, from, "", e)
}

// jump is a break or a continue, with a label, if there is one.
func (p *parser) jump(kind int) api.Node {
	from := p.next().From
	if !p.standsKind(lexer.KName) {
		return p.made(kind, from, from, "")
	}
	label := p.next()
	return p.made(kind, from, label.From, label.Text)
}

// labelled is a for with a label.
func (p *parser) labelled() api.Node {
	label := p.takeKind(lexer.KName)
	p.take(":")
	loop := p.loop()
	return p.made(api.NLabel, label.From, label.From, label.Text, loop)
}

// define declares a variable by its expression.
func (p *parser) define() api.Node {
	name := p.takeKind(lexer.KName)
	p.take(":=")
	e := p.expr()
	return p.made(api.NDefine, name.From, name.From, name.Text, e)
}

// simple is the assignment or the call that begins with an expression.
func (p *parser) simple(e api.Node) api.Node {
	switch {
	case isPath(e) && p.stands("="):
		at := p.next().From
		value := p.expr()
		return p.made(api.NAssign, e.From, at, "", e, value)
	case !isCall(e):
		p.fail(api.ErrForm)
	}
	return p.made(api.NCallStmt, e.From, e.From, "", e)
}

// isPath tells whether something may be assigned to what an expression tells: a name, or what is selected from one.
func isPath(e api.Node) bool {
	for e.Kind == api.NSel {
		e = e.Kids[0]
	}
	return e.Kind == api.NIdent
}

// isCall tells whether an expression is one that may stand alone.
func isCall(e api.Node) bool {
	switch e.Kind {
	case api.NCall:
		return true
	case api.NBuiltin:
		return e.Name == "print" || e.Name == "panic"
	}
	return false
}

// condition is an if, with what is done else, if there is something.
func (p *parser) condition() api.Node {
	from := p.take("if").From
	p.head = p.open
	e := p.expr()
	p.head = 0
	block := p.block()
	var other api.Node
	if p.passed("else") {
		other = p.other()
	}
	return p.made(api.NIf, from, from, "", e, block, other)
}

// other is what is done else.
func (p *parser) other() api.Node {
	if p.stands("if") {
		return p.condition()
	}
	return p.block()
}

// loop is a for.
func (p *parser) loop() api.Node {
	from := p.take("for").From
	p.head = p.open
	var first, e, last api.Node
	if !p.stands("{") {
		first, e, last = p.loopHead()
	}
	p.head = 0
	block := p.block()
	return p.made(api.NFor, from, from, "", first, e, last, block)
}

// loopHead is what stands between a for and its block: an expression alone, or what is done first, the expression,
// and what is done behind each round, with semicolons between.
func (p *parser) loopHead() (first, e, last api.Node) {
	switch {
	case p.standsKind(lexer.KSemi):
	case p.nameStands(":="):
		first = p.define()
	default:
		e = p.expr()
		if p.stands("{") {
			return api.Node{}, e, api.Node{}
		}
		first = p.simple(e)
	}
	e = api.Node{}
	p.takeKind(lexer.KSemi)
	if !p.standsKind(lexer.KSemi) {
		e = p.expr()
	}
	p.takeKind(lexer.KSemi)
	if !p.stands("{") {
		last = p.simple(p.chain())
	}
	return first, e, last
}
