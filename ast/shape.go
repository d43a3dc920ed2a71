package ast

import (
	"slices"

	"emend/api"
	"emend/lexer"
)

// shape tells whether a tree is one of those that may stand at some place.
type shape func(n api.Node) bool

// part tells whether a row of children begins as it must, and what is left of the row behind that.
type part func(kids []api.Node) (rest []api.Node, ok bool)

// made tells whether a node has a name that may be, and children that are all of its parts, one behind the other.
func made(n api.Node, mayBe func(name string) bool, parts ...part) bool {
	if !mayBe(n.Name) {
		return false
	}
	kids, ok := n.Kids, true
	for _, p := range parts {
		if kids, ok = p(kids); !ok {
			return false
		}
	}
	return len(kids) == 0
}

// one is a child that has one of some shapes.
func one(shapes ...shape) part {
	return func(kids []api.Node) (rest []api.Node, ok bool) {
		if len(kids) == 0 || !has(kids[0], shapes) {
			return nil, false
		}
		return kids[1:], true
	}
}

// many is as many children as there are that have a shape.
func many(s shape) part {
	return func(kids []api.Node) (rest []api.Node, ok bool) {
		for len(kids) > 0 && s(kids[0]) {
			kids = kids[1:]
		}
		return kids, true
	}
}

// has tells whether a tree has one of some shapes.
func has(n api.Node, shapes []shape) bool {
	return slices.ContainsFunc(shapes, func(s shape) bool { return s(n) })
}

// isNothing is the shape of what is not there.
func isNothing(n api.Node) bool {
	return n.Kind == api.NNone && made(n, isEmpty)
}

// isEmpty is what the names of nodes are that have none.
func isEmpty(name string) bool { return name == "" }

// isWord makes a name one of some words.
func isWord(words ...string) func(name string) bool {
	return func(name string) bool { return slices.Contains(words, name) }
}

// isToken makes a name the text of a token of a kind, behind which a semicolon is put in.
func isToken(kind int) func(name string) bool {
	return func(name string) bool {
		l, _, e := lexer.Tokens(name)
		// A second token can't be a written semicolon: the first one is all of the text.
		return e == api.OK && len(l) == 2 && l[0].Kind == kind && l[0].Text == name
	}
}
