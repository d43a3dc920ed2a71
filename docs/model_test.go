package docs

import (
	"math"
	"math/rand"
	"regexp"
	"slices"
	"strconv"
	"strings"
	"unicode/utf16"
	"unicode/utf8"

	"emend/api"
)

const (
	least = math.MinInt
	most  = math.MaxInt
)

// words are the reserved words as the chapter lists them.
const words = "bool break continue else false float64 for func if import int len package panic print return string struct true type var"

// shape is what URIs look like, but for names that may not be.
var shape = regexp.MustCompile(`^file:///([A-Za-z_][A-Za-z0-9_]*)/([A-Za-z_][A-Za-z0-9_]*)\.go$`)

// dirOf is what Dir tells in the model.
func dirOf(uri string) (string, bool) {
	names := shape.FindStringSubmatch(uri)
	if names == nil || slices.Contains(strings.Fields(words), names[1]) {
		return "", false
	}
	for _, name := range names[1:] {
		if name == "_" || len(name) > 40 {
			return "", false
		}
	}
	return names[1], true
}

// model is the documents of the model, in the order in which they were opened.
type model []api.Doc

// at is the number of a document, or one below 0.
func (m model) at(uri string) int {
	return slices.IndexFunc(m, func(d api.Doc) bool { return d.URI == uri })
}

func (m *model) open(uri, text string, version int64) api.Errno {
	if _, ok := dirOf(uri); !ok {
		return api.ErrName
	}
	if m.at(uri) >= 0 {
		return api.ErrThere
	}
	if len(*m) == 32 {
		return api.ErrFull
	}
	if e := mayBe(text); e != api.OK {
		return e
	}
	*m = append(*m, api.Doc{URI: uri, Text: text, Version: version})
	return api.OK
}

// mayBe tells why a text may not be.
func mayBe(text string) api.Errno {
	if !utf8.ValidString(text) {
		return api.ErrUtf
	}
	if len(text) > 65536 {
		return api.ErrLong
	}
	return api.OK
}

func (m *model) change(uri string, version int64, l []Change) api.Errno {
	i := m.at(uri)
	if i < 0 {
		return api.ErrNone
	}
	if version <= (*m)[i].Version {
		return api.ErrVersion
	}
	text := (*m)[i].Text
	for _, c := range l {
		if !utf8.ValidString(c.Text) {
			return api.ErrUtf
		}
		next := c.Text
		if !c.Whole {
			from, to := offset(text, c.Range.From), offset(text, c.Range.To)
			if from < 0 || to < from {
				return api.ErrArg
			}
			next = text[:from] + c.Text + text[to:]
		}
		if e := mayBe(next); e != api.OK {
			return e
		}
		text = next
	}
	(*m)[i].Text, (*m)[i].Version = text, version
	return api.OK
}

func (m *model) close(uri string) api.Errno {
	i := m.at(uri)
	if i < 0 {
		return api.ErrNone
	}
	*m = slices.Delete(*m, i, i+1)
	return api.OK
}

func (m model) get(uri string) (api.Doc, bool) {
	if i := m.at(uri); i >= 0 {
		return m[i], true
	}
	return api.Doc{}, false
}

// all is all documents, each put ahead of the first one that has a greater URI.
func (m model) all() []api.Doc {
	var l []api.Doc
	for _, d := range m {
		i := 0
		for i < len(l) && l[i].URI < d.URI {
			i++
		}
		l = slices.Insert(l, i, d)
	}
	return l
}

// offset is the place of a Pos in a valid text as editors have it: found by going ahead one point after the other. It
// is below 0 where there is none.
func offset(text string, p api.Pos) int {
	if p.Line < 0 || p.Char < 0 {
		return -1
	}
	line, char := 0, 0
	for at, point := range text {
		ends := point == '\n' || point == '\r'
		if line == p.Line && (ends || char+utf16.RuneLen(point) > p.Char) {
			return at
		}
		char += utf16.RuneLen(point)
		if ends && !strings.HasPrefix(text[at:], "\r\n") {
			line, char = line+1, 0
		}
	}
	return len(text)
}

// span is a range.
func span(fromLine, fromChar, toLine, toChar int) api.Range {
	return api.Range{From: api.Pos{Line: fromLine, Char: fromChar}, To: api.Pos{Line: toLine, Char: toChar}}
}

// put is a change of a range.
func put(fromLine, fromChar, toLine, toChar int, text string) Change {
	return Change{Range: span(fromLine, fromChar, toLine, toChar), Text: text}
}

// whole is a change of the whole.
func whole(text string) Change { return Change{Whole: true, Text: text} }

// numbered is a URI.
func numbered(n int) string { return "file:///d/n" + strconv.Itoa(n) + ".go" }

// someText is a text of a few points and ends of lines, at times one that is not valid.
func someText(rnd *rand.Rand) string {
	all := []string{"\n", "\r", "\r\n", "a", "b", "c", "\u00e9", "\u20ac", "\U0001f600", "\ufffd"}
	var b strings.Builder
	for range rnd.Intn(8) {
		b.WriteString(all[rnd.Intn(len(all))])
	}
	if rnd.Intn(20) == 0 {
		b.WriteString([]string{"\xff", "\xed\xa0\x80", "\xe2\x82", "\x80"}[rnd.Intn(4)])
	}
	return b.String()
}

// somePos is a Pos, seldom one that is none.
func somePos(rnd *rand.Rand) api.Pos {
	return api.Pos{Line: rnd.Intn(21)/4 - rnd.Intn(20)/19, Char: rnd.Intn(21)/3 - rnd.Intn(20)/19}
}

// someChanges are changes of which most can be made.
func someChanges(rnd *rand.Rand) []Change {
	var l []Change
	for range rnd.Intn(4) {
		c := Change{Whole: rnd.Intn(6) == 0, Range: api.Range{From: somePos(rnd), To: somePos(rnd)}, Text: someText(rnd)}
		if a, b := c.Range.From, c.Range.To; rnd.Intn(4) > 0 && (b.Line < a.Line || b.Line == a.Line && b.Char < a.Char) {
			c.Range = api.Range{From: b, To: a}
		}
		l = append(l, c)
	}
	return l
}

// someURI is a URI of a few, seldom one that is none.
func someURI(rnd *rand.Rand) string {
	if rnd.Intn(20) == 0 {
		return []string{"", "file:///for/n1.go", "file:///d/n1", "file:///d/1.go", "file:///d/n1.go "}[rnd.Intn(5)]
	}
	return numbered(rnd.Intn(40))
}
