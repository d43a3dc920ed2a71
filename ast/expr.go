package ast

import (
	"emend/api"
	"emend/lexer"
)

// The levels of expressions: the lower one is, the less strongly it binds.
const (
	lowest  = 1
	unary   = 6
	highest = 7
)

// levelOf is the level of what an operator makes of two expressions: none, if there is no such operator.
func levelOf(operator string) int {
	switch operator {
	case "||":
		return 1
	case "&&":
		return 2
	case "==", "!=", "<", "<=", ">", ">=":
		return 3
	case "+", "-":
		return 4
	case "*", "/", "%":
		return 5
	}
	return 0
}

// isOperator is what the names of nodes are that are made of two expressions.
func isOperator(name string) bool { return levelOf(name) > 0 }

// isExpr is the shape of all expressions.
func isExpr(n api.Node) bool {
	return level(lowest)(n)
}

// level is the shape of the expressions of a level, or of a higher one.
func level(least int) shape {
	return func(n api.Node) bool {
		switch n.Kind {
		case api.NBinary:
			k := levelOf(n.Name)
			return k >= least && made(n, isOperator, one(level(k)), one(level(k+1)))
		case api.NUnary:
			return unary >= least && made(n, isWord("-", "!"), one(level(unary)))
		}
		return isOperand(n)
	}
}

// isOperand is the shape of the expressions of the highest level.
func isOperand(n api.Node) bool {
	switch n.Kind {
	case api.NInt:
		return made(n, isToken(lexer.KInt))
	case api.NFloat:
		return made(n, isToken(lexer.KFloat))
	case api.NString:
		return made(n, isToken(lexer.KString))
	case api.NBool:
		return made(n, isWord("true", "false"))
	case api.NIdent:
		return isIdent(n)
	case api.NParen:
		return made(n, isEmpty, one(isExpr))
	case api.NSel:
		return isSel(n)
	case api.NCall:
		return made(n, isEmpty, one(isIdent, isSel), many(isExpr))
	case api.NBuiltin:
		return made(n, isWord("int", "float64", "len", "print", "panic"), many(isExpr))
	case api.NLit:
		return made(n, isEmpty, one(isOwnType, isFarType), many(isKeyed))
	}
	return false
}

func isSel(n api.Node) bool {
	return n.Kind == api.NSel && made(n, lexer.Name, one(level(highest)))
}

func isKeyed(n api.Node) bool {
	return n.Kind == api.NKeyed && made(n, lexer.Name, one(isExpr))
}

// ofHead is the shape of those trees of a shape that may stand in a head, where the brace of a literal that no bracket
// is around would be taken for that of the block.
func ofHead(s shape) shape {
	return func(n api.Node) bool {
		if !s(n) {
			return false
		}
		for m := range nodes(n, outside) {
			if m.Kind == api.NLit {
				return false
			}
		}
		return true
	}
}

// outside is what stands right below a node of an expression, but not within brackets of its own.
func outside(n api.Node) []api.Node {
	switch n.Kind {
	case api.NParen, api.NBuiltin:
		return nil
	case api.NCall:
		return n.Kids[:1]
	}
	return n.Kids
}
