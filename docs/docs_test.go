package docs

import (
	"math"
	"math/rand"
	"slices"
	"strings"
	"testing"
	"unsafe"

	"emend/api"
)

// a is the chapter's URI.
const a = "file:///geo/a.go"

// says tells of an error that is another one.
func says(t *testing.T, what string, e, want api.Errno) {
	t.Helper()
	if e != want {
		t.Errorf("%s: %d, not %d", what, e, want)
	}
}

// holds tells of a document that is another one.
func holds(t *testing.T, d *Docs, uri, text string, version int64) {
	t.Helper()
	want := api.Doc{URI: uri, Text: text, Version: version}
	if got, ok := d.Get(uri); got != want || !ok {
		t.Errorf("Get(%s): %q of version %d, %t, not %q of %d", uri, short(got.Text), got.Version, ok, short(text), version)
	}
}

// short is a text, or what it begins with.
func short(s string) string { return s[:min(len(s), 100)] }

// isNot tells of a document that is open.
func isNot(t *testing.T, d *Docs, uri string) {
	t.Helper()
	if got, ok := d.Get(uri); got != (api.Doc{}) || ok {
		t.Errorf("Get(%s): %q of version %d, %t", uri, short(got.Text), got.Version, ok)
	}
}

// having is documents of which one is open, a.
func having(t *testing.T, text string, version int64) *Docs {
	t.Helper()
	d := New()
	says(t, "Open", d.Open(a, text, version), api.OK)
	return d
}

// TestExamples: P8.2 to P8.4, the chapter's examples.
func TestExamples(t *testing.T) {
	d := New()
	says(t, "Open(a)", d.Open(a, "xy", 5), api.OK)
	says(t, "Open(a) again", d.Open(a, "", 6), api.ErrThere)
	says(t, "Open(b)", d.Open("file:///geo/b", "", 1), api.ErrName)
	holds(t, d, a, "xy", 5)
	says(t, "Change(a, 6)", d.Change(a, 6, []Change{put(0, 1, 0, 2, "z"), put(0, 0, 0, 0, "w")}), api.OK)
	holds(t, d, a, "wxz", 6)
	says(t, "Change(a, 6) again", d.Change(a, 6, []Change{whole("q")}), api.ErrVersion)
	says(t, "Change(a, 7) of a range", d.Change(a, 7, []Change{put(0, 1, 0, 0, "")}), api.ErrArg)
	says(t, "Change(a, 7) of the whole", d.Change(a, 7, []Change{whole("\xff")}), api.ErrUtf)
	says(t, "Change(b)", d.Change("file:///geo/b.go", 1, []Change{whole("q")}), api.ErrNone)
	holds(t, d, a, "wxz", 6)
	says(t, "Change(a, 7) by none", d.Change(a, 7, nil), api.OK)
	holds(t, d, a, "wxz", 7)
	says(t, "Close(a)", d.Close(a), api.OK)
	says(t, "Close(a) again", d.Close(a), api.ErrNone)
	if l := d.All(); len(l) != 0 {
		t.Errorf("All: %v", l)
	}
	isNot(t, d, a)
}

// TestNotMade: P8.2 to P8.4, of nil and of what New did not make.
func TestNotMade(t *testing.T) {
	made := having(t, "x", 1)
	copied := *made
	for i, d := range []*Docs{nil, {}, new(Docs), &copied} {
		says(t, "Open", d.Open("file:///geo/b.go", "", 1), api.ErrNil)
		says(t, "Open of no URI", d.Open("", "\xff", 1), api.ErrNil)
		says(t, "Change", d.Change(a, 2, nil), api.ErrNil)
		says(t, "Change of none", d.Change("", 0, []Change{whole("\xff")}), api.ErrNil)
		says(t, "Close", d.Close(a), api.ErrNil)
		says(t, "Close of none", d.Close(""), api.ErrNil)
		isNot(t, d, a)
		if l := d.All(); len(l) != 0 {
			t.Errorf("All of %d: %v", i, l)
		}
		if d.Copy() != nil {
			t.Errorf("Copy of %d is not nil", i)
		}
	}
	holds(t, made, a, "x", 1)
	if l := made.All(); len(l) != 1 {
		t.Errorf("All: %v", l)
	}
	if l := New().All(); len(l) != 0 {
		t.Errorf("All of New: %v", l)
	}
}

// TestOpen: P8.2, which texts and URIs may be, any version, and which error is the first.
func TestOpen(t *testing.T) {
	wide := strings.Repeat("a", api.MaxText)
	for i, c := range []struct {
		uri, text string
		version   int64
		e         api.Errno
	}{
		{"file:///geo/b.go", "", 0, api.OK},
		{"file:///geo/b.go", "\x00\r\n\ufffd\U0010ffff", math.MinInt64, api.OK},
		{"file:///geo/b.go", "q", math.MaxInt64, api.OK},
		{"file:///geo/A.go", "q", 1, api.OK},
		{"file:///geo/for.go", wide, 1, api.OK},
		{"file:///geo/b.go", wide[3:] + "\u20ac", 1, api.OK},
		{"file:///geo/b.go", wide[2:] + "\u20ac", 1, api.ErrLong},
		{"file:///geo/b.go", wide + "a", 1, api.ErrLong},
		{"file:///geo/b.go", wide + wide, 1, api.ErrLong},
		{"file:///geo/b.go", "a\x80", 1, api.ErrUtf},
		{"file:///geo/b.go", "\xed\xa0\x80", 1, api.ErrUtf},
		{"file:///geo/b.go", wide + "\xff", 1, api.ErrUtf},
		{a, "", 9, api.ErrThere},
		{a, wide + "\xff", 9, api.ErrThere},
		{"file:///for/b.go", "", 1, api.ErrName},
		{"", wide + "\xff", 1, api.ErrName},
	} {
		d := having(t, "x", 5)
		if e := d.Open(c.uri, c.text, c.version); e != c.e {
			t.Errorf("Open %d: %d, not %d", i, e, c.e)
		}
		switch {
		case c.e == api.OK:
			holds(t, d, c.uri, c.text, c.version)
		case c.uri != a:
			isNot(t, d, c.uri)
		}
		holds(t, d, a, "x", 5)
	}
}

// TestFull: P8.2 and P8.5, as many documents as may be, and which errors are ahead of that and behind it.
func TestFull(t *testing.T) {
	d := New()
	for n := range api.MaxDocs {
		says(t, "Open", d.Open(numbered(n), "x", 1), api.OK)
	}
	says(t, "Open of one more", d.Open(numbered(32), "x", 1), api.ErrFull)
	says(t, "Open of one more that is not valid", d.Open(numbered(32), "\xff", 1), api.ErrFull)
	says(t, "Open of one more that is long", d.Open(numbered(32), strings.Repeat("a", api.MaxText+1), 1), api.ErrFull)
	says(t, "Open of one that is there", d.Open(numbered(31), "\xff", 1), api.ErrThere)
	says(t, "Open of no URI", d.Open("file:///d/32", "\xff", 1), api.ErrName)
	if l := d.All(); len(l) != 32 {
		t.Errorf("All: %d", len(l))
	}
	says(t, "Close", d.Close(numbered(7)), api.OK)
	says(t, "Open where there is room", d.Open(numbered(32), "y", 1), api.OK)
	says(t, "Open where there is none", d.Open(numbered(7), "y", 1), api.ErrFull)
	holds(t, d, numbered(32), "y", 1)
	isNot(t, d, numbered(7))
}

// TestVersions: P8.3 and P8.5, a version only rises, as far as there are versions, until its document is closed.
func TestVersions(t *testing.T) {
	d := having(t, "x", math.MinInt64)
	for _, c := range []struct {
		version int64
		e       api.Errno
		behind  int64
	}{
		{math.MinInt64, api.ErrVersion, math.MinInt64},
		{-7, api.OK, -7},
		{-7, api.ErrVersion, -7},
		{-8, api.ErrVersion, -7},
		{0, api.OK, 0},
		{1 << 40, api.OK, 1 << 40},
		{1, api.ErrVersion, 1 << 40},
		{math.MaxInt64, api.OK, math.MaxInt64},
		{math.MaxInt64, api.ErrVersion, math.MaxInt64},
		{math.MinInt64, api.ErrVersion, math.MaxInt64},
	} {
		says(t, "Change", d.Change(a, c.version, []Change{}), c.e)
		holds(t, d, a, "x", c.behind)
	}
	says(t, "Close", d.Close(a), api.OK)
	says(t, "Open", d.Open(a, "y", 3), api.OK)
	holds(t, d, a, "y", 3)
	says(t, "Change", d.Change(a, 4, nil), api.OK)
}

// TestChange: P8.3, what changes make of a text, and which error is the first.
func TestChange(t *testing.T) {
	wide := strings.Repeat("a", api.MaxText)
	bad := put(0, 1, 0, 0, "")
	for i, c := range []struct {
		text string
		l    []Change
		want string
		e    api.Errno
	}{
		{"abc", []Change{put(0, 1, 0, 2, "")}, "ac", api.OK},
		{"abc", []Change{put(0, 3, 0, 3, "d")}, "abcd", api.OK},
		{"abc", []Change{put(0, 9, 5, 0, "d")}, "abcd", api.OK},
		{"abc", []Change{put(0, 0, 9, 9, "")}, "", api.OK},
		{"abc", []Change{whole("")}, "", api.OK},
		{"", []Change{whole("xyz")}, "xyz", api.OK},
		{"", []Change{put(0, 0, 0, 0, "xyz")}, "xyz", api.OK},
		{"ab\r\ncd\ref\n", []Change{put(0, 2, 1, 0, " "), put(0, 5, 1, 0, "\n")}, "ab cd\nef\n", api.OK},
		{"ab\ncd", []Change{put(0, 7, 0, 8, "!")}, "ab!\ncd", api.OK},
		{"ab\r\ncd", []Change{put(0, 2, 0, 3, "!")}, "ab!\r\ncd", api.OK},
		{"\U0001f600b", []Change{put(0, 2, 0, 3, "c")}, "\U0001f600c", api.OK},
		// Amid a point's units is ahead of it.
		{"\U0001f600b", []Change{put(0, 1, 0, 1, "c")}, "c\U0001f600b", api.OK},
		{"\U0001f600b", []Change{put(0, 1, 0, 2, "c")}, "cb", api.OK},
		{"\u20ac\u00e9", []Change{put(0, 1, 0, 2, "\u20ac")}, "\u20ac\u20ac", api.OK},
		// A line's end that a change brings makes lines for those behind it.
		{"ab", []Change{put(0, 1, 0, 1, "\n"), put(1, 0, 1, 1, "c"), put(0, 0, 0, 1, "d")}, "d\nc", api.OK},
		{"a\n", []Change{put(0, 1, 0, 1, "\r"), put(1, 0, 1, 0, "x")}, "a\r\nx", api.OK},
		// The range of a change of the whole is of no weight.
		{"abc", []Change{{Whole: true, Range: span(-1, 5, -7, 0), Text: "x"}}, "x", api.OK},
		{"abc", []Change{{Whole: true, Range: span(0, 1, 0, 2), Text: "x"}}, "x", api.OK},
		{"abc", []Change{bad}, "", api.ErrArg},
		{"abc", []Change{put(-1, 0, 0, 0, "")}, "", api.ErrArg},
		{"abc", []Change{put(0, 0, 0, -1, "")}, "", api.ErrArg},
		{"a\nb", []Change{put(1, 0, 0, 1, "")}, "", api.ErrArg},
		{"abc", []Change{put(0, 0, 0, 0, "\xff")}, "", api.ErrUtf},
		{"abc", []Change{whole("\xed\xb0\x80")}, "", api.ErrUtf},
		// Nor may halves of a point be put one behind the other.
		{"abc", []Change{put(0, 0, 0, 0, "\xa9"), put(0, 0, 0, 0, "\xc3")}, "", api.ErrUtf},
		{wide, []Change{put(0, 0, 0, 1, "b")}, "b" + wide[1:], api.OK},
		{wide, []Change{put(0, 0, 0, 0, "b")}, "", api.ErrLong},
		{wide, []Change{put(0, 0, 0, 1, "\u00e9")}, "", api.ErrLong},
		{wide, []Change{put(0, 0, 0, 2, "\u00e9")}, "\u00e9" + wide[2:], api.OK},
		{wide, []Change{put(0, 0, 9, 0, wide)}, wide, api.OK},
		{wide, []Change{whole(wide)}, wide, api.OK},
		{wide, []Change{whole(wide + "a")}, "", api.ErrLong},
		{"", []Change{put(0, 0, 0, 0, wide+"a")}, "", api.ErrLong},
		{"a", []Change{put(0, 1, 0, 1, wide)}, "", api.ErrLong},
		{"a", []Change{put(0, 0, 0, 1, wide)}, wide, api.OK},
		// A text that is too long between two changes is one that may not be, whatever becomes of it.
		{wide, []Change{put(0, 0, 0, 0, "b"), whole("c")}, "", api.ErrLong},
		{wide, []Change{put(0, 0, 0, 1, ""), put(0, 0, 0, 0, "b")}, "b" + wide[1:], api.OK},
		{"abc", []Change{whole("x"), whole("y"), put(0, 0, 0, 0, "\xff")}, "", api.ErrUtf},
		// Of one change ErrUtf is ahead of ErrArg, and that is ahead of ErrLong; of several the first that is wrong tells.
		{"abc", []Change{put(0, 1, 0, 0, "\xff")}, "", api.ErrUtf},
		{"abc", []Change{put(0, 1, 0, 0, wide+"\xff")}, "", api.ErrUtf},
		{"abc", []Change{put(0, 1, 0, 0, wide)}, "", api.ErrArg},
		{"abc", []Change{whole(wide + "\xff")}, "", api.ErrUtf},
		{"abc", []Change{bad, whole("\xff")}, "", api.ErrArg},
		{"abc", []Change{whole(wide + "a"), bad, whole("\xff")}, "", api.ErrLong},
		{"abc", []Change{whole("\xff"), bad}, "", api.ErrUtf},
		// A range is one of the text that those ahead have made.
		{"a", []Change{whole("a\nb"), put(1, 0, 0, 1, "")}, "", api.ErrArg},
		{"a\nb", []Change{whole("a"), put(1, 0, 0, 1, "c")}, "ac", api.OK},
	} {
		d := having(t, c.text, 5)
		if e := d.Change(a, 6, c.l); e != c.e {
			t.Errorf("Change %d: %d, not %d", i, e, c.e)
		}
		if c.e == api.OK {
			holds(t, d, a, c.want, 6)
		} else {
			holds(t, d, a, c.text, 5)
		}
	}
}

// TestChangeOrder: P8.3, ErrNone is ahead of ErrVersion, and both are ahead of what changes tell.
func TestChangeOrder(t *testing.T) {
	d := having(t, "x", 5)
	wrong := []Change{whole("\xff")}
	says(t, "Change of none", d.Change("file:///geo/b.go", math.MinInt64, wrong), api.ErrNone)
	says(t, "Change of no URI", d.Change("", 6, nil), api.ErrNone)
	says(t, "Change of another letter's case", d.Change("file:///geo/A.go", 6, nil), api.ErrNone)
	says(t, "Change of its own version", d.Change(a, 5, wrong), api.ErrVersion)
	says(t, "Change", d.Change(a, 6, wrong), api.ErrUtf)
	holds(t, d, a, "x", 5)
	says(t, "Close of none", d.Close("file:///geo/b.go"), api.ErrNone)
	says(t, "Close of no URI", d.Close(""), api.ErrNone)
	holds(t, d, a, "x", 5)
}

// TestAll: P8.4, byte by byte is neither the order of the alphabet nor that in which documents were opened.
func TestAll(t *testing.T) {
	d := New()
	for i, uri := range []string{"file:///b/a.go", "file:///a_/a.go", "file:///a/b.go", "file:///B/z.go", "file:///a/a1.go", "file:///a1/a.go", "file:///a/a.go", "file:///_a/a.go"} {
		says(t, "Open", d.Open(uri, "x"+uri, int64(i)), api.OK)
	}
	want := []api.Doc{
		{URI: "file:///B/z.go", Version: 3}, {URI: "file:///_a/a.go", Version: 7}, {URI: "file:///a/a.go", Version: 6}, {URI: "file:///a/a1.go", Version: 4},
		{URI: "file:///a/b.go", Version: 2}, {URI: "file:///a1/a.go", Version: 5}, {URI: "file:///a_/a.go", Version: 1}, {URI: "file:///b/a.go", Version: 0},
	}
	for i := range want {
		want[i].Text = "x" + want[i].URI
	}
	if got := d.All(); !slices.Equal(got, want) {
		t.Errorf("All: %v, not %v", got, want)
	}
}

// pair is documents and the model of them.
type pair struct {
	d *Docs
	m *model
}

// sayIfOther tells of documents that are not as in the model, or that may not be.
func (p pair) sayIfOther(t *testing.T) {
	t.Helper()
	got := p.d.All()
	if want := p.m.all(); !slices.Equal(got, want) {
		t.Fatalf("All: %v, not %v", got, want)
	}
	if len(got) > 32 || slices.ContainsFunc(got, func(doc api.Doc) bool { return mayBe(doc.Text) != api.OK }) {
		t.Fatalf("what may not be: %v", got)
	}
}

// step does something to both, and tells of what is answered otherwise.
func (p pair) step(t *testing.T, rnd *rand.Rand) {
	t.Helper()
	uri := someURI(rnd)
	version := int64(rnd.Intn(30))
	switch rnd.Intn(8) {
	case 0, 1, 2:
		text := someText(rnd)
		says(t, "Open", p.d.Open(uri, text, version), p.m.open(uri, text, version))
	case 3:
		says(t, "Close", p.d.Close(uri), p.m.close(uri))
	default:
		l := someChanges(rnd)
		before := slices.Clone(l)
		says(t, "Change", p.d.Change(uri, version, l), p.m.change(uri, version, l))
		if !slices.Equal(l, before) {
			t.Errorf("Change changed its list: %v", l)
		}
	}
	got, ok := p.d.Get(uri)
	if want, wantOK := p.m.get(uri); got != want || ok != wantOK {
		t.Errorf("Get(%s): %v, %t, not %v, %t", uri, got, ok, want, wantOK)
	}
}

// TestLikeModel: P8.2 to P8.5 and P8.7, documents and their copies, each of which goes its own way.
func TestLikeModel(t *testing.T) {
	rnd := rand.New(rand.NewSource(8))
	for range 60 {
		all := []pair{{New(), &model{}}}
		for range 1500 {
			p := all[rnd.Intn(len(all))]
			p.step(t, rnd)
			if rnd.Intn(200) == 0 {
				m := slices.Clone(*p.m)
				all = append(all, pair{p.d.Copy(), &m})
			}
			if rnd.Intn(20) == 0 {
				for _, p := range all {
					p.sayIfOther(t)
				}
			}
		}
		for _, p := range all {
			p.sayIfOther(t)
		}
	}
}

// TestSameText: P8.6, what stands in a range put there again changes no text.
func TestSameText(t *testing.T) {
	rnd := rand.New(rand.NewSource(86))
	for range 5000 {
		text := someText(rnd)
		if mayBe(text) != api.OK {
			continue
		}
		c := Change{Range: api.Range{From: somePos(rnd), To: somePos(rnd)}}
		from, to := offset(text, c.Range.From), offset(text, c.Range.To)
		if from < 0 || to < from {
			continue
		}
		c.Text = text[from:to]
		d := having(t, text, 1)
		says(t, "Change", d.Change(a, 2, []Change{c}), api.OK)
		holds(t, d, a, text, 2)
	}
}

// TestOneByOne: P8.6, changes in one call are the same changes in calls of their own.
func TestOneByOne(t *testing.T) {
	rnd := rand.New(rand.NewSource(87))
	for range 5000 {
		text := someText(rnd)
		if mayBe(text) != api.OK {
			continue
		}
		l := someChanges(rnd)
		once, each := having(t, text, 0), having(t, text, 0)
		e := once.Change(a, int64(len(l))+1, l)
		wrong := api.OK
		for i, c := range l {
			if wrong == api.OK {
				wrong = each.Change(a, int64(i)+1, []Change{c})
			}
		}
		says(t, "Change of all", e, wrong)
		if e != api.OK {
			holds(t, once, a, text, 0)
			continue
		}
		doc, _ := each.Get(a)
		holds(t, once, a, doc.Text, int64(len(l))+1)
	}
}

// TestCopy: P8.4 and P8.7, neither side knows what the other one does.
func TestCopy(t *testing.T) {
	d := having(t, "x", 1)
	c := d.Copy()
	says(t, "Change", d.Change(a, 2, []Change{whole("y")}), api.OK)
	says(t, "Open", d.Open(numbered(1), "d", 1), api.OK)
	holds(t, c, a, "x", 1)
	isNot(t, c, numbered(1))
	says(t, "Change of the copy", c.Change(a, 3, []Change{whole("z")}), api.OK)
	says(t, "Open of the copy's", c.Open(numbered(2), "c", 1), api.OK)
	holds(t, d, a, "y", 2)
	isNot(t, d, numbered(2))
	again := c.Copy()
	says(t, "Close of the copy's", c.Close(a), api.OK)
	holds(t, d, a, "y", 2)
	holds(t, again, a, "z", 3)
	says(t, "Close", d.Close(a), api.OK)
	holds(t, again, a, "z", 3)
	says(t, "Open of the copy's copy's", again.Open(numbered(1), "e", 1), api.OK)
	holds(t, d, numbered(1), "d", 1)
	isNot(t, c, numbered(1))
	if l := New().Copy().All(); len(l) != 0 {
		t.Errorf("All of a copy of none: %v", l)
	}
}

// lender hands out texts in memory that is changed later on.
type lender [][]byte

func (l *lender) lend(s string) string {
	b := []byte(s)
	*l = append(*l, b)
	return unsafe.String(unsafe.SliceData(b), len(b))
}

// spoil makes other texts of all that were handed out.
func (l *lender) spoil() {
	for _, b := range *l {
		copy(b, strings.Repeat(".", len(b)))
	}
}

// TestNewMemory: P8.7, what was handed in is not kept, and lists that were answered are the asker's.
func TestNewMemory(t *testing.T) {
	d := New()
	var l lender
	says(t, "Open", d.Open(l.lend(a), l.lend("xy"), 1), api.OK)
	says(t, "Open of another one", d.Open(l.lend(numbered(1)), l.lend("none"), 1), api.OK)
	l.spoil()
	holds(t, d, a, "xy", 1)
	holds(t, d, numbered(1), "none", 1)
	says(t, "Change to the whole", d.Change(l.lend(a), 2, []Change{whole(l.lend("whole"))}), api.OK)
	says(t, "Change by none", d.Change(l.lend(numbered(1)), 4, nil), api.OK)
	l.spoil()
	holds(t, d, a, "whole", 2)
	holds(t, d, numbered(1), "none", 4)
	changes := []Change{whole(""), put(0, 0, 0, 0, l.lend("piece"))}
	says(t, "Change of a range", d.Change(l.lend(a), 3, changes), api.OK)
	changes[0], changes[1] = whole("gone"), whole("gone")
	l.spoil()
	holds(t, d, a, "piece", 3)
	got := d.All()
	for i := range got {
		got[i] = api.Doc{URI: "gone", Text: "gone", Version: 9}
	}
	_ = append(got[:0], api.Doc{URI: "gone"})
	if l := d.All(); len(l) != 2 || l[0].URI != numbered(1) || l[1].URI != a {
		t.Errorf("All: %v", l)
	}
	holds(t, d, a, "piece", 3)
}

// TestAnswersAreApart: P8.7, no two answers share a text's memory.
func TestAnswersAreApart(t *testing.T) {
	d := having(t, "text", 1)
	one, _ := d.Get(a)
	other, _ := d.Get(a)
	all, again := d.All(), d.All()
	docs := []api.Doc{one, other, all[0], again[0]}
	for i, x := range docs {
		for _, y := range docs[:i] {
			if unsafe.StringData(x.Text) == unsafe.StringData(y.Text) || unsafe.StringData(x.URI) == unsafe.StringData(y.URI) {
				t.Errorf("answer %d shares memory", i)
			}
		}
	}
}

// TestNoPanic: P8.7, places of all sizes, all URIs of up to two bytes, and texts of all bytes.
func TestNoPanic(t *testing.T) {
	numbers := []int{least, least + 1, -1, 0, 1, 2, 3, most - 1, most}
	d := having(t, "ab\n\U0001f600", 0)
	version := int64(0)
	for _, p := range numbers {
		for _, q := range numbers {
			for _, r := range numbers {
				version++
				d.Change(a, version, []Change{put(p, q, q, r, "x"), put(p, r, q, p, "")})
				d.Change(a, int64(p), nil)
			}
		}
	}
	for n := range 1 << 16 {
		s := string([]byte{byte(n), byte(n >> 8)})
		Dir(s)
		d.Open(s, s, int64(n))
		d.Open(numbered(1), s, int64(n))
		d.Change(numbered(1), int64(n)+1, []Change{whole(s), put(0, 0, 0, 1, s)})
		d.Close(numbered(1))
		d.Close(s)
		d.Get(s)
	}
}

// TestMuch: P8.3, a long list of changes of a long text.
func TestMuch(t *testing.T) {
	d := having(t, strings.Repeat("ab\n", 20000), 1)
	var l []Change
	for line := range 1000 {
		l = append(l, put(line*20, 1, line*20, 2, ""))
	}
	says(t, "Change", d.Change(a, 2, l), api.OK)
	holds(t, d, a, strings.Repeat("a\n"+strings.Repeat("ab\n", 19), 1000), 2)
}
