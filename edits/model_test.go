package edits

import (
	"math"
	"math/rand"
	"slices"
	"strings"

	"emend/api"
)

const (
	least = math.MinInt
	most  = math.MaxInt
)

// put is a splice.
func put(from, to int, text string) api.Splice {
	return api.Splice{From: from, To: to, Text: text}
}

// fits tells whether splices fit a text of n bytes, each of them held against the one ahead.
func fits(n int, l []api.Splice) bool {
	for i, s := range l {
		if !(0 <= s.From && s.From <= s.To && s.To <= n) {
			return false
		}
		if i > 0 && s.From < l[i-1].To {
			return false
		}
	}
	return n >= 0
}

// mark is a byte, and its place in the text ahead of the splices; noPlace, if a Text brought it.
type mark struct {
	b     byte
	place int
}

const noPlace = -1

// marks are the bytes of what splices that fit a text make of it, and one for its end. The last splice is put in
// first, so that all places ahead of it are those of the text still.
func marks(text string, l []api.Splice) []mark {
	var all []mark
	for i := range len(text) {
		all = append(all, mark{text[i], i})
	}
	all = append(all, mark{0, len(text)})
	for _, s := range slices.Backward(l) {
		var brought []mark
		for i := range len(s.Text) {
			brought = append(brought, mark{s.Text[i], noPlace})
		}
		all = slices.Replace(all, s.From, s.To, brought...)
	}
	return all
}

// apply is what Apply tells in the model.
func apply(text string, l []api.Splice) (string, api.Errno) {
	if !fits(len(text), l) {
		return "", api.ErrArg
	}
	var made []byte
	all := marks(text, l)
	for _, m := range all[:len(all)-1] {
		made = append(made, m.b)
	}
	if len(made) > 65536 {
		return "", api.ErrLong
	}
	return string(made), api.OK
}

// invert is what Invert tells in the model: a Text stands behind what the splices ahead of it make of the text up to it.
func invert(text string, l []api.Splice) ([]api.Splice, api.Errno) {
	if _, e := apply(text, l); e != api.OK {
		return nil, e
	}
	var back []api.Splice
	for i, s := range l {
		ahead, _ := apply(text[:s.From], l[:i])
		back = append(back, put(len(ahead), len(ahead)+len(s.Text), text[s.From:s.To]))
	}
	return back, api.OK
}

// moved is what Moved tells in the model, of splices that fit that text and a place of it.
func moved(text string, l []api.Splice, at int) (int, bool) {
	i := slices.IndexFunc(marks(text, l), func(m mark) bool { return m.place == at })
	return max(i, 0), i >= 0
}

// flat is what Flat tells in the model.
func flat(text string, l []api.Cut) ([]api.Splice, api.Errno) {
	var all []api.Splice
	for _, c := range l {
		meant := ""
		for _, p := range c.Parts {
			switch {
			case p.New:
				meant += p.Text
			case p.Text != "":
				meant += p.Text
			case 0 <= p.From && p.From <= p.To && p.To <= len(text):
				meant += text[p.From:p.To]
			default:
				return nil, api.ErrArg
			}
		}
		if len(meant) > 65536 {
			return nil, api.ErrLong
		}
		all = append(all, put(c.From, c.To, meant))
	}
	if !fits(len(text), all) {
		return nil, api.ErrArg
	}
	return all, api.OK
}

// whole is what Whole tells in the model.
func whole(docs []api.Doc, l []api.DocEdit) ([]api.Doc, api.Errno) {
	now := append([]api.Doc{}, docs...)
	for i, edit := range l {
		for _, ahead := range l[:i] {
			if ahead.URI == edit.URI {
				return nil, api.ErrTwice
			}
		}
		at := slices.IndexFunc(docs, func(d api.Doc) bool { return d.URI == edit.URI })
		if at < 0 {
			return nil, api.ErrNone
		}
		if docs[at].Version != edit.Version {
			return nil, api.ErrVersion
		}
		text, e := apply(docs[at].Text, edit.Splices)
		if e != api.OK {
			return nil, e
		}
		now[at].Text = text
	}
	return now, api.OK
}

// splicesAbout are all splices from -1 to n + 1, of some Texts.
func splicesAbout(n int) []api.Splice {
	var all []api.Splice
	for from := -1; from <= n+1; from++ {
		for to := -1; to <= n+1; to++ {
			for _, text := range []string{"", "X", "YZ"} {
				all = append(all, put(from, to, text))
			}
		}
	}
	return all
}

// shortLists are all lists of none, one or two splices about a text of n bytes.
func shortLists(n int) [][]api.Splice {
	all := [][]api.Splice{nil, {}}
	for _, a := range splicesAbout(n) {
		all = append(all, []api.Splice{a})
		for _, b := range splicesAbout(n) {
			all = append(all, []api.Splice{a, b})
		}
	}
	return all
}

// someText is a text of up to some bytes of all kinds.
func someText(rnd *rand.Rand, long int) string {
	var b strings.Builder
	for range rnd.Intn(long + 1) {
		b.WriteString([]string{"a", "b", "c", "\n", "\x00", "\xff", "\xc3", "\u00e9"}[rnd.Intn(8)])
	}
	return b.String()
}

// someFitting are a few splices that fit a text of n bytes.
func someFitting(rnd *rand.Rand, n int) []api.Splice {
	many := rnd.Intn(6)
	var places []int
	for range 2 * many {
		places = append(places, rnd.Intn(n+1))
	}
	slices.Sort(places)
	var l []api.Splice
	for i := range many {
		l = append(l, put(places[2*i], places[2*i+1], someText(rnd, 3)))
	}
	return l
}

// somePart is a part of any kind, for the most part one that may be.
func somePart(rnd *rand.Rand, n int) api.Part {
	p := api.Part{From: rnd.Intn(n + 1), To: n - rnd.Intn(n+1)}
	switch rnd.Intn(8) {
	case 0:
		p.New, p.Text = true, someText(rnd, 2)
	case 1:
		p.Text = someText(rnd, 2)
	case 2:
		p.From, p.To = rnd.Intn(n+5)-2, rnd.Intn(n+5)-2
	default:
		p.From, p.To = min(p.From, p.To), max(p.From, p.To)
	}
	return p
}
