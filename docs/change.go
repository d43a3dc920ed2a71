package docs

import (
	"emend/api"
	"emend/lines"
	"emend/utf"
)

// Change is a change of a document: of the whole, or of a range.
type Change struct {
	Whole bool
	Range api.Range
	Text  string
}

// changed is what changes make of a text, one behind the other.
func changed(text string, l ...Change) (string, api.Errno) {
	for _, c := range l {
		next, e := c.of(text)
		if e != api.OK {
			return "", e
		}
		text = next
	}
	return text, api.OK
}

// of is what a change makes of a text.
func (c Change) of(text string) (string, api.Errno) {
	if !utf.Valid(c.Text) {
		return "", api.ErrUtf
	}
	from, to, ok := c.places(text)
	if !ok {
		return "", api.ErrArg
	}
	if left := len(text) - (to - from); len(c.Text) > api.MaxText-left {
		return "", api.ErrLong
	}
	return text[:from] + c.Text + text[to:], api.OK
}

// places are the bytes of a text in whose place a change puts its own, and whether there are such.
func (c Change) places(text string) (from, to int, ok bool) {
	if c.Whole {
		return 0, len(text), true
	}
	from, to, e := lines.Cut(text, c.Range)
	return from, to, e == api.OK
}
