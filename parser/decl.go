package parser

import (
	"emend/api"
	"emend/lexer"
)

// file is all of the text.
func (p *parser) file() api.Node {
	p.take("package")
	name := p.takeKind(lexer.KName)
	p.takeKind(lexer.KSemi)
	var kids []api.Node
	for p.stands("import") {
		kids = append(kids, p.imported())
		p.takeKind(lexer.KSemi)
	}
	end := p.tokens[len(p.tokens)-1]
	for p.token() != end {
		kids = append(kids, p.decl())
		p.takeKind(lexer.KSemi)
	}
	return api.Node{Kind: api.NFile, To: end.To, At: name.From, Name: name.Text, Kids: kids}
}

// imported is a package that is imported.
func (p *parser) imported() api.Node {
	from := p.take("import").From
	if !p.standsKind(lexer.KString) {
		p.fail(api.ErrForm)
	}
	name, _ := lexer.Value(p.token().Text)
	if !lexer.Name(name) {
		p.fail(api.ErrName)
	}
	return p.made(api.NImport, from, p.next().From, name)
}

// decl is a type or a function.
func (p *parser) decl() api.Node {
	if p.stands("type") {
		return p.structType()
	}
	return p.function()
}

// structType is a type that is declared.
func (p *parser) structType() api.Node {
	from := p.take("type").From
	name := p.takeKind(lexer.KName)
	p.take("struct")
	fields := p.lines(p.field)
	return p.made(api.NType, from, name.From, name.Text, fields...)
}

// field is one of a struct.
func (p *parser) field() api.Node { return p.nameAndType(api.NField) }

// param is one of a function.
func (p *parser) param() api.Node { return p.nameAndType(api.NParam) }

// nameAndType is a node of a kind: a name, and its type.
func (p *parser) nameAndType(kind int) api.Node {
	name := p.takeKind(lexer.KName)
	typ := p.typ()
	return p.made(kind, name.From, name.From, name.Text, typ)
}

// typ is what a type is called.
func (p *parser) typ() api.Node {
	switch t := p.token(); t.Text {
	case "int", "bool", "string", "float64":
		p.next()
		return p.made(api.NTypeName, t.From, t.From, t.Text)
	}
	typ := p.ownType()
	if !p.passed(".") {
		return typ
	}
	name := p.takeKind(lexer.KName)
	typ.Kind = api.NIdent
	return p.made(api.NTypeSel, typ.From, name.From, name.Text, typ)
}

// ownType is what a type of the same package is called.
func (p *parser) ownType() api.Node {
	t := p.takeKind(lexer.KName)
	return p.made(api.NTypeName, t.From, t.From, t.Text)
}

// function is a function, or a method, that is declared.
func (p *parser) function() api.Node {
	from := p.take("func").From
	var receiver, result api.Node
	if p.stands("(") {
		receiver = p.receiver()
	}
	name := p.takeKind(lexer.KName)
	params := p.params()
	if !p.stands("{") {
		result = p.typ()
	}
	block := p.block()
	return p.made(api.NFunc, from, name.From, name.Text, receiver, params, result, block)
}

// receiver is a method's: the brackets around it are none of its tokens.
func (p *parser) receiver() api.Node {
	p.begin("(")
	name := p.takeKind(lexer.KName)
	typ := p.ownType()
	n := p.made(api.NParam, name.From, name.From, name.Text, typ)
	p.finish(")")
	return n
}

// params are a function's.
func (p *parser) params() api.Node {
	from := p.token().From
	l := p.row("(", ")", p.param)
	return p.made(api.NParams, from, from, "", l...)
}
