package check

import (
	"emend/api"
	"emend/types"
)

// fault is one in the document of the spot that is looked at.
func fault(at int, e api.Errno) []api.Fault { return []api.Fault{{At: at, E: e}} }

// noValues are the children of a spot that are asked to be values, and have the type None.
func (m *model) noValues(s *spot) (l []api.Fault) {
	var asked []*spot
	switch s.Kind {
	case api.NParen, api.NUnary, api.NBinary, api.NBuiltin, api.NAssign, api.NDefine, api.NReturn, api.NKeyed:
		asked = s.kids(0)
	case api.NSel, api.NIf:
		asked = s.kids(0)[:1]
	case api.NCall:
		asked = s.kids(1)
	case api.NVar, api.NFor:
		asked = s.kids(1)[:1]
	}
	for _, kid := range asked {
		if x, ok := m.typ(kid); ok && x == (types.Type{}) {
			l = append(l, fault(kid.At, api.ErrType)...)
		}
	}
	return l
}

// other is ErrType at an expression's At, if that is a value of another type.
func (m *model) other(s *spot, want types.Type) []api.Fault {
	if x, ok := m.value(s); ok && x != want {
		return fault(s.At, api.ErrType)
	}
	return nil
}

// faults are those of a spot, by the chapter's list, but for children of the type None.
func (m *model) faults(s *spot) (l []api.Fault) {
	truth := types.Type{Kind: types.Bool}
	switch s.Kind {
	case api.NIdent:
		return m.identFaults(s)
	case api.NUnary, api.NBinary:
		_, ok := m.typ(s)
		if _, all := m.values(s.kids(0)); all && !ok {
			return fault(s.At, api.ErrType)
		}
	case api.NSel:
		return m.selFaults(s)
	case api.NCall:
		return m.callFaults(s)
	case api.NLit:
		if _, f := m.ts.Of(s.doc, s.Kids[0]); f.E != api.OK {
			return []api.Fault{f}
		}
	case api.NKeyed:
		return m.keyFaults(s)
	case api.NBuiltin:
		if !m.countFits(s) {
			return fault(s.At, api.ErrType)
		}
		for _, arg := range m.badArgs(s) {
			l = append(l, fault(arg.At, api.ErrType)...)
		}
	case api.NVar:
		x, f := m.ts.Of(s.doc, s.Kids[0])
		if f.E != api.OK {
			return []api.Fault{f}
		}
		if s.Kids[0].Kind != api.NNone {
			return m.other(s.kid(1), x)
		}
	case api.NAssign:
		if x, ok := m.value(s.kid(0)); ok {
			return m.other(s.kid(1), x)
		}
	case api.NIf:
		return m.other(s.kid(0), truth)
	case api.NFor:
		return m.other(s.kid(1), truth)
	case api.NReturn, api.NBreak, api.NContinue, api.NFunc:
		return m.flowFaults(s)
	}
	return l
}

// flowFaults are those of returns, of what leaves or begins rounds, and of functions' ends.
func (m *model) flowFaults(s *spot) []api.Fault {
	up := s.innermost(api.NFunc, "")
	if s.Kind == api.NFunc {
		up = s.Node
	}
	_, result := m.signature(m.decls[[2]int{s.doc, up.At}])
	has := result != types.Type{}
	switch {
	case s.Kind == api.NReturn && len(s.Kids) == 0 && has:
		return fault(s.At, api.ErrType)
	case s.Kind == api.NReturn && len(s.Kids) == 1 && !has:
		return fault(s.Kids[0].At, api.ErrType)
	case s.Kind == api.NReturn && len(s.Kids) == 1:
		return m.other(s.kid(0), result)
	case s.Kind == api.NBreak, s.Kind == api.NContinue:
		_, labelled := m.names[[2]int{s.doc, s.At}]
		if s.Name != "" && !labelled || s.Name == "" && s.innermost(api.NFor, "") == nil {
			return fault(s.At, api.ErrFlow)
		}
	case s.Kind == api.NFunc && has && !m.ends(s.doc, &s.Kids[3]):
		return fault(s.Kids[3].To-1, api.ErrFlow)
	}
	return nil
}

func (m *model) identFaults(s *spot) []api.Fault {
	d, ok := m.names[[2]int{s.doc, s.At}]
	called := s.isFirstOf(api.NCall)
	of := s.isFirstOf(api.NSel) && d.Kind == api.DImport
	switch {
	case s.parent().Kind == api.NTypeSel:
	case !ok:
		return fault(s.At, api.ErrBound)
	case called && d.Kind != api.DFunc, !called && !of && d.Kind != api.DVar && d.Kind != api.DParam:
		return fault(s.At, api.ErrType)
	}
	return nil
}

func (m *model) selFaults(s *spot) []api.Fault {
	called := s.isFirstOf(api.NCall)
	if m.isImport(s.kid(0)) {
		d, ok := m.names[[2]int{s.doc, s.At}]
		switch {
		case !ok:
			return fault(s.At, api.ErrBound)
		case !called || d.Kind != api.DFunc:
			return fault(s.At, api.ErrType)
		case !m.seen(s.doc, d):
			return fault(s.At, api.ErrHidden)
		}
		return nil
	}
	x, isValue := m.value(s.kid(0))
	d, ok := m.stands(s)
	switch {
	case !isValue:
	case x.Kind != types.Struct:
		return fault(s.At, api.ErrType)
	case !ok:
		return fault(s.At, api.ErrBound)
	case !m.seen(s.doc, d):
		return fault(s.At, api.ErrHidden)
	case d.Kind == api.DMethod && !called, d.Kind == api.DField && called:
		return fault(s.At, api.ErrType)
	}
	return nil
}

func (m *model) callFaults(s *spot) (l []api.Fault) {
	d, ok := m.called(s)
	if !ok {
		return nil
	}
	params, _ := m.signature(d)
	if len(params) != len(s.Kids)-1 {
		return fault(s.At, api.ErrType)
	}
	for i, arg := range s.kids(1) {
		l = append(l, m.other(arg, params[i])...)
	}
	return l
}

func (m *model) keyFaults(s *spot) []api.Fault {
	if _, f := m.ts.Of(s.doc, s.parent().Kids[0]); f.E != api.OK {
		return nil
	}
	for _, key := range s.parent().Kids[1:] {
		if key.Name == s.Name && key.At < s.At {
			return fault(s.At, api.ErrTwice)
		}
	}
	d, _ := m.stands(s)
	switch {
	case d.Kind != api.DField:
		return fault(s.At, api.ErrBound)
	case !m.seen(s.doc, d):
		return fault(s.At, api.ErrHidden)
	}
	x, _ := m.ts.Of(d.Doc, m.nodes[d].Kids[0])
	return m.other(s.kid(0), x)
}

// ends tells whether a statement of a document ends.
func (m *model) ends(doc int, n *api.Node) bool {
	switch n.Kind {
	case api.NReturn:
		return true
	case api.NCallStmt:
		return n.Kids[0].Kind == api.NBuiltin && n.Kids[0].Name == "panic"
	case api.NBlock:
		return len(n.Kids) > 0 && m.ends(doc, &n.Kids[len(n.Kids)-1])
	case api.NIf:
		return m.ends(doc, &n.Kids[1]) && m.ends(doc, &n.Kids[2])
	case api.NLabel:
		return m.ends(doc, &n.Kids[0])
	case api.NFor:
		for _, s := range m.spots {
			if s.Kind != api.NBreak || s.doc != doc {
				continue
			}
			left := s.innermost(api.NFor, "")
			if label := s.innermost(api.NLabel, s.Name); s.Name != "" && label != nil {
				left = &label.Kids[0]
			} else if s.Name != "" {
				left = nil
			}
			if left == n {
				return false
			}
		}
		return n.Kids[1].Kind == api.NNone
	}
	return false
}
