package ast

import (
	"iter"
	"slices"
	"strings"

	"emend/api"
)

// mostApart is how many nodes the lists of one answer may have in all, if they share no memory: they take more bytes
// than a call has to answer. Beyond it lists are shared, so that what is asked of the deepest trees ends, too.
const mostApart = 1 << 25

// nodes goes through the nodes of a tree that are not nothing, each ahead of those below it, which a closure tells.
func nodes(n api.Node, below func(n api.Node) []api.Node) iter.Seq[api.Node] {
	return func(yield func(api.Node) bool) { visit(n, below, yield) }
}

// visit goes through the nodes of a tree as nodes does, and tells whether it may go on.
func visit(n api.Node, below func(n api.Node) []api.Node, yield func(api.Node) bool) (more bool) {
	if n.Kind != api.NNone && !yield(n) {
		return false
	}
	for _, kid := range below(n) {
		if !visit(kid, below, yield) {
			return false
		}
	}
	return true
}

// kidsOf is all that stands right below a node.
func kidsOf(n api.Node) []api.Node { return n.Kids }

// copyOf is n in memory of its own.
func copyOf(n api.Node) api.Node {
	n.Name = strings.Clone(n.Name)
	n.Kids = slices.Clone(n.Kids)
	for i, kid := range n.Kids {
		n.Kids[i] = copyOf(kid)
	}
	return n
}

// apart is n with lists of its own, as long as there are nodes left for them.
func apart(n api.Node, left *int) api.Node {
	if len(n.Kids) > *left {
		return n
	}
	*left -= len(n.Kids)
	n.Kids = slices.Clone(n.Kids)
	for i, kid := range n.Kids {
		n.Kids[i] = apart(kid, left)
	}
	return n
}
