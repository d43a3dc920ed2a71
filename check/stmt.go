package check

import (
	"emend/api"
	"emend/types"
)

// asker asks what stands in a function, in the order of its text, and tells somebody of the faults.
type asker struct {
	*maker
	doc    int
	to     teller
	result types.Type // the function's
	loop   *loop      // the innermost one around; nil, if there is none
}

// loop is a for.
type loop struct {
	around *loop
	label  string // nothing, if it has none
	left   bool   // by a break
}

// tell tells of a fault in the document.
func (a asker) tell(at int, e api.Errno) {
	a.to.tell(api.Fault{Doc: a.doc, At: at, E: e})
}

// stmt looks at a statement, and at all that lies in it. It tells whether the statement ends.
func (a asker) stmt(n api.Node) (ends bool) {
	switch n.Kind {
	case api.NBlock:
		for _, kid := range n.Kids {
			ends = a.stmt(kid)
		}
	case api.NVar:
		x := a.variable(n)
		if n.Kids[0].Kind != api.NNone && n.Kids[1].Kind != api.NNone {
			a.fits(n.Kids[1], x)
		}
	case api.NDefine:
		a.variable(n)
	case api.NAssign:
		a.fits(n.Kids[1], a.value(n.Kids[0]))
	case api.NIf:
		a.fits(n.Kids[0], types.Type{Kind: types.Bool})
		first, other := a.stmt(n.Kids[1]), a.stmt(n.Kids[2])
		return first && other
	case api.NFor:
		return a.round(n, "")
	case api.NLabel:
		return a.round(n.Kids[0], n.Name)
	case api.NBreak, api.NContinue:
		a.jump(n)
	case api.NReturn:
		a.returned(n)
		return true
	case api.NCallStmt:
		call := n.Kids[0]
		a.typeOf(call)
		return call.Kind == api.NBuiltin && call.Name == "panic"
	}
	return ends
}

// round looks at a for.
func (a asker) round(n api.Node, label string) (ends bool) {
	condition := n.Kids[1]
	a.stmt(n.Kids[0])
	if condition.Kind != api.NNone {
		a.fits(condition, types.Type{Kind: types.Bool})
	}
	a.stmt(n.Kids[2])
	a.loop = &loop{around: a.loop, label: label}
	a.stmt(n.Kids[3])
	return condition.Kind == api.NNone && !a.loop.left
}

// jump looks at a break or a continue.
func (a asker) jump(n api.Node) {
	to := a.loop
	for to != nil && n.Name != "" && n.Name != to.label {
		to = to.around
	}
	if to == nil {
		a.tell(n.At, api.ErrFlow)
	} else if n.Kind == api.NBreak {
		to.left = true
	}
}

// returned looks at a return.
func (a asker) returned(n api.Node) {
	some := a.result.Kind != types.None
	switch {
	case len(n.Kids) > 0:
		a.fits(n.Kids[0], a.result)
		if !some {
			a.tell(n.Kids[0].At, api.ErrType)
		}
	case some:
		a.tell(n.At, api.ErrType)
	}
}

// variable is the type of a variable, or a param, that a node declares; None, if it has none.
func (a asker) variable(n api.Node) types.Type {
	switch {
	case n.Kind == api.NDefine:
		return a.value(n.Kids[0])
	case n.Kids[0].Kind == api.NNone:
		return a.value(n.Kids[1])
	}
	x, fault := a.types.Of(a.doc, n.Kids[0])
	a.to.tell(fault)
	return x
}
