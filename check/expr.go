package check

import (
	"emend/api"
	"emend/types"
)

// typeOf is an expression's type, and whether it has one.
func (a asker) typeOf(n api.Node) (types.Type, bool) {
	at := span{a.doc, n.Kind, n.From, n.To}
	got, ok := a.exprs[at]
	if !ok {
		got.Type, got.is = a.reckon(n)
		a.exprs[at] = got
	}
	return got.Type, got.is
}

// value is the type of an expression that is asked to be a value; None, if it is none.
func (a asker) value(n api.Node) types.Type {
	x, ok := a.typeOf(n)
	if ok && x.Kind == types.None {
		a.tell(n.At, api.ErrType)
	}
	return x
}

// fits tells whether an expression is a value of a type: not, if the type is None, as that of what has a fault is.
func (a asker) fits(n api.Node, want types.Type) bool {
	x := a.value(n)
	if x.Kind == types.None || want.Kind == types.None {
		return false
	}
	if x != want {
		a.tell(n.At, api.ErrType)
	}
	return x == want
}

// reckon is the type of an expression that was not asked yet, and whether it has one.
func (a asker) reckon(n api.Node) (x types.Type, ok bool) {
	switch n.Kind {
	case api.NInt:
		x.Kind = types.Int
	case api.NFloat:
		x.Kind = types.Float
	case api.NString:
		x.Kind = types.String
	case api.NBool:
		x.Kind = types.Bool
	case api.NIdent:
		x = a.local(n)
	case api.NParen:
		x = a.value(n.Kids[0])
	case api.NUnary:
		x = a.unary(n)
	case api.NBinary:
		x = a.binary(n)
	case api.NSel:
		x = a.selected(n)
	case api.NLit:
		x = a.literal(n)
	case api.NCall:
		return a.call(n)
	case api.NBuiltin:
		return a.builtin(n)
	}
	return x, x.Kind != types.None
}

// local is the type of the variable, or the param, for which a name stands.
func (a asker) local(n api.Node) types.Type {
	u, _ := a.program.Find(a.doc, n.At)
	declared, ok := a.locals[u.Decl]
	switch {
	case !u.Is:
		a.tell(n.At, api.ErrBound)
	case !ok:
		a.tell(n.At, api.ErrType)
	default:
		// Its statement, which stands ahead, has told already.
		a.to = deaf{}
		return a.variable(declared)
	}
	return types.Type{}
}

// unary is the type of an operator with what is behind it.
func (a asker) unary(n api.Node) types.Type {
	x := a.value(n.Kids[0])
	if x.Kind == types.None {
		return x
	}
	if n.Name == "!" && x.Kind == types.Bool || n.Name == "-" && isNumber(x) {
		return x
	}
	a.tell(n.At, api.ErrType)
	return types.Type{}
}

// binary is the type of an operator with what is on both sides of it.
func (a asker) binary(n api.Node) types.Type {
	x, y := a.value(n.Kids[0]), a.value(n.Kids[1])
	if x.Kind == types.None || y.Kind == types.None {
		return types.Type{}
	}
	made := between(n.Name, x)
	if x == y && made.Kind != types.None {
		return made
	}
	a.tell(n.At, api.ErrType)
	return types.Type{}
}

// between is what an operator makes of two values of a type; None, if it does not ask for such.
func between(op string, x types.Type) (made types.Type) {
	switch op {
	case "+":
		if isOrdered(x) {
			return x
		}
	case "-", "*", "/":
		if isNumber(x) {
			return x
		}
	case "%":
		if x.Kind == types.Int {
			return x
		}
	case "&&", "||":
		if x.Kind == types.Bool {
			return x
		}
	case "<", "<=", ">", ">=":
		if isOrdered(x) {
			made.Kind = types.Bool
		}
	case "==", "!=":
		made.Kind = types.Bool
	}
	return made
}

// isNumber tells whether a type is that of whole numbers, or of floats.
func isNumber(x types.Type) bool { return x.Kind == types.Int || x.Kind == types.Float }

// isOrdered tells whether of a type's values one may be less than another.
func isOrdered(x types.Type) bool { return isNumber(x) || x.Kind == types.String }
