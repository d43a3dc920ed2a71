package edits

import (
	"slices"
	"strings"

	"emend/api"
)

// target is the document that edits of a URI are of, by its number, and whether they were met.
type target struct {
	doc int
	met bool
}

// Whole is what edits of documents make of these.
func Whole(docs []api.Doc, l []api.DocEdit) ([]api.Doc, api.Errno) {
	targets := targetsIn(docs)
	now := copiesOf(docs)
	for _, edit := range l {
		t, ok := targets[edit.URI]
		switch {
		case t.met: // only of a URI that a document has: else the edits ahead were refused
			return nil, api.ErrTwice
		case !ok:
			return nil, api.ErrNone
		case docs[t.doc].Version != edit.Version:
			return nil, api.ErrVersion
		}
		text, e := Apply(docs[t.doc].Text, edit.Splices)
		if e != api.OK {
			return nil, e
		}
		now[t.doc].Text = text
		t.met = true
		targets[edit.URI] = t
	}
	return now, api.OK
}

// targetsIn is the first document of each URI.
func targetsIn(docs []api.Doc) map[string]target {
	targets := map[string]target{}
	// From the last one on, so that the first one of a URI stays.
	for i, d := range slices.Backward(docs) {
		targets[d.URI] = target{doc: i}
	}
	return targets
}

// copiesOf is the same documents in memory of their own.
func copiesOf(docs []api.Doc) []api.Doc {
	copies := slices.Clone(docs)
	for i, d := range docs {
		copies[i].URI = strings.Clone(d.URI)
		copies[i].Text = strings.Clone(d.Text)
	}
	return copies
}
