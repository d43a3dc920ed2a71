package ast

import (
	"emend/api"
	"emend/lexer"
)

// isFile is the shape of a file: the root of all trees that the grammar makes.
func isFile(n api.Node) bool {
	return n.Kind == api.NFile && made(n, lexer.Name, many(isImport), many(isDecl))
}

func isImport(n api.Node) bool {
	return n.Kind == api.NImport && made(n, lexer.Name)
}

func isDecl(n api.Node) bool {
	switch n.Kind {
	case api.NType:
		return made(n, lexer.Name, many(typed(api.NField, isType)))
	case api.NFunc:
		own := typed(api.NParam, isOwnType)
		return made(n, lexer.Name, one(own, isNothing), one(isParams), one(isType, isNothing), one(isBlock))
	}
	return false
}

func isParams(n api.Node) bool {
	return n.Kind == api.NParams && made(n, isEmpty, many(typed(api.NParam, isType)))
}

// typed is the shape of a field or a param whose type has a shape.
func typed(kind int, ofType shape) shape {
	return func(n api.Node) bool {
		return n.Kind == kind && made(n, lexer.Name, one(ofType))
	}
}

func isType(n api.Node) bool {
	return isBasicType(n) || isOwnType(n) || isFarType(n)
}

func isBasicType(n api.Node) bool {
	return n.Kind == api.NTypeName && made(n, isWord("int", "bool", "string", "float64"))
}

// isOwnType is the shape of a type of the package itself.
func isOwnType(n api.Node) bool {
	return n.Kind == api.NTypeName && made(n, lexer.Name)
}

// isFarType is the shape of a type of another package.
func isFarType(n api.Node) bool {
	return n.Kind == api.NTypeSel && made(n, lexer.Name, one(isIdent))
}

func isIdent(n api.Node) bool {
	return n.Kind == api.NIdent && made(n, lexer.Name)
}

func isBlock(n api.Node) bool {
	return n.Kind == api.NBlock && made(n, isEmpty, many(isStmt))
}

func isStmt(n api.Node) bool {
	switch n.Kind {
	case api.NVar:
		return isVar(n)
	case api.NBlock:
		return isBlock(n)
	case api.NIf:
		return isIf(n)
	case api.NFor:
		return isFor(n)
	case api.NLabel:
		return made(n, lexer.Name, one(isFor))
	case api.NBreak, api.NContinue:
		return made(n, isEmpty) || made(n, lexer.Name)
	case api.NReturn:
		return made(n, isEmpty) || made(n, isEmpty, one(isExpr))
	}
	return isDefine(n) || isAssign(n) || isCallStmt(n)
}

func isVar(n api.Node) bool {
	typeAlone := made(n, lexer.Name, one(isType), one(isNothing))
	return typeAlone || made(n, lexer.Name, one(isType, isNothing), one(isExpr))
}

func isIf(n api.Node) bool {
	return n.Kind == api.NIf && made(n, isEmpty, one(ofHead(isExpr)), one(isBlock), one(isNothing, isIf, isBlock))
}

func isFor(n api.Node) bool {
	first := one(ofHead(isDefine), ofHead(isAssign), ofHead(isCallStmt), isNothing)
	last := one(ofHead(isAssign), ofHead(isCallStmt), isNothing)
	return n.Kind == api.NFor && made(n, isEmpty, first, one(ofHead(isExpr), isNothing), last, one(isBlock))
}

func isDefine(n api.Node) bool {
	return n.Kind == api.NDefine && made(n, lexer.Name, one(isExpr))
}

func isAssign(n api.Node) bool {
	return n.Kind == api.NAssign && made(n, isEmpty, one(isPath), one(isExpr))
}

// isPath is the shape of what may be assigned to.
func isPath(n api.Node) bool {
	return isIdent(n) || n.Kind == api.NSel && made(n, lexer.Name, one(isPath))
}

func isCallStmt(n api.Node) bool {
	return n.Kind == api.NCallStmt && made(n, isEmpty, one(isCall))
}

// isCall is the shape of an expression that may be a statement.
func isCall(n api.Node) bool {
	ends := n.Kind == api.NBuiltin && (n.Name == "print" || n.Name == "panic")
	return (n.Kind == api.NCall || ends) && isExpr(n)
}
