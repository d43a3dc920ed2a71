package printer

import (
	"strings"

	"emend/api"
)

// page gathers a text, up to as many bytes as a document may have.
type page struct {
	strings.Builder
	open int  // how many blocks and structs are open
	full bool // whether something had no room
}

// put writes texts, one behind the other.
func (p *page) put(texts ...string) {
	for _, text := range texts {
		p.full = p.full || len(text) > api.MaxText-p.Len()
		// A text that is too long is not told, so that what is behind needs no memory.
		if p.full {
			return
		}
		p.WriteString(text)
	}
}

// line begins a line.
func (p *page) line() { p.put("\n", strings.Repeat("\t", p.open)) }

// more writes what may be there, a text ahead of it, if it is.
func (p *page) more(ahead string, n api.Node, write func(n api.Node)) {
	if isThere(n) {
		p.put(ahead)
		write(n)
	}
}

// lines writes braces, and what stands in them, each on a line of its own.
func (p *page) lines(l []api.Node, write func(n api.Node)) {
	p.put("{")
	p.open++
	for _, n := range l {
		p.line()
		write(n)
	}
	p.open--
	p.line()
	p.put("}")
}

// row writes two marks, and what stands between them, on one line.
func (p *page) row(from, to string, l []api.Node, write func(n api.Node)) {
	p.put(from)
	for i, n := range l {
		if i > 0 {
			p.put(", ")
		}
		write(n)
	}
	p.put(to)
}

// isThere tells whether a node is not nothing.
func isThere(n api.Node) bool { return n.Kind != api.NNone }
