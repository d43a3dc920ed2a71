package edits

import (
	"iter"

	"emend/api"
)

// pieces goes through what splices that fit a text make of it: what they leave of it, and their Texts between.
func pieces(text string, l []api.Splice) iter.Seq[string] {
	return func(yield func(string) bool) {
		left := 0
		for _, s := range l {
			if !yield(text[left:s.From]) || !yield(s.Text) {
				return
			}
			left = s.To
		}
		yield(text[left:])
	}
}

// meanings goes through what the parts of a cut stand for, of which none copies what the text doesn't have.
func meanings(text string, l []api.Part) iter.Seq[string] {
	return func(yield func(string) bool) {
		for _, p := range l {
			meant := p.Text
			if isCopy(p) {
				meant = text[p.From:p.To]
			}
			if !yield(meant) {
				return
			}
		}
	}
}

// size is how many bytes pieces have in all.
func size(pieces iter.Seq[string]) int {
	all := 0
	for piece := range pieces {
		all += len(piece)
	}
	return all
}

// joined is the text of pieces, one behind the other.
func joined(pieces iter.Seq[string]) string {
	text := make([]byte, size(pieces))
	free := text
	for piece := range pieces {
		free = free[copy(free, piece):]
	}
	return string(text)
}
