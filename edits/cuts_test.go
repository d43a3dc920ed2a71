package edits

import (
	"math/rand"
	"slices"
	"strings"
	"testing"

	"emend/api"
)

// cut is a cut.
func cut(from, to int, parts ...api.Part) api.Cut {
	return api.Cut{From: from, To: to, Parts: parts}
}

// copied is a part that copies bytes of the text.
func copied(from, to int) api.Part { return api.Part{From: from, To: to} }

// own is a part of a text of its own.
func own(text string) api.Part { return api.Part{Text: text} }

// fresh is a part that is the new name.
func fresh(name string) api.Part { return api.Part{Text: name, New: true} }

// TestFlat: P7.4, the chapter's example, what parts stand for, and which error is the first.
func TestFlat(t *testing.T) {
	wide := strings.Repeat("a", api.MaxText+2)
	for i, c := range []struct {
		text string
		l    []api.Cut
		want []api.Splice
		e    api.Errno
	}{
		{exampleText, []api.Cut{cut(0, 1, own("("), copied(2, 4), own(")"), fresh("n"))}, []api.Splice{put(0, 1, "(cd)n")}, api.OK},
		{exampleText, nil, nil, api.OK},
		{"", nil, nil, api.OK},
		{"", []api.Cut{cut(0, 0)}, []api.Splice{put(0, 0, "")}, api.OK},
		{exampleText, []api.Cut{cut(1, 3), cut(3, 3, own("x")), cut(3, 6, copied(0, 6), copied(6, 6))},
			[]api.Splice{put(1, 3, ""), put(3, 3, "x"), put(3, 6, exampleText)}, api.OK},
		// The places of a part that is no copy are of no weight.
		{exampleText, []api.Cut{cut(0, 0, api.Part{From: 4, To: 2, New: true}, api.Part{From: -1, To: 99, Text: "x"})},
			[]api.Splice{put(0, 0, "x")}, api.OK},
		{exampleText, []api.Cut{cut(0, 0, api.Part{From: 1, To: 2, New: true, Text: "n"}, api.Part{From: 1, To: 2, New: true})},
			[]api.Splice{put(0, 0, "n")}, api.OK},
		{exampleText, []api.Cut{cut(0, 0, copied(-1, 2))}, nil, api.ErrArg},
		{exampleText, []api.Cut{cut(0, 0, copied(2, 1))}, nil, api.ErrArg},
		{exampleText, []api.Cut{cut(0, 0, copied(6, 7))}, nil, api.ErrArg},
		{exampleText, []api.Cut{cut(0, 0, copied(7, 7))}, nil, api.ErrArg},
		{exampleText, []api.Cut{cut(0, 0, copied(least, most))}, nil, api.ErrArg},
		{exampleText, []api.Cut{cut(0, 0, copied(most, least))}, nil, api.ErrArg},
		{exampleText, []api.Cut{cut(3, 4), cut(2, 2)}, nil, api.ErrArg},
		{exampleText, []api.Cut{cut(0, 7)}, nil, api.ErrArg},
		{exampleText, []api.Cut{cut(2, 1)}, nil, api.ErrArg},
		{exampleText, []api.Cut{cut(-1, 0)}, nil, api.ErrArg},
		// A splice's Text counts alone, not what it makes of the text.
		{exampleText, []api.Cut{cut(0, 0, own(wide[:api.MaxText]))}, []api.Splice{put(0, 0, wide[:api.MaxText])}, api.OK},
		{exampleText, []api.Cut{cut(0, 0, own(wide[:api.MaxText])), cut(0, 0, copied(0, 1))},
			[]api.Splice{put(0, 0, wide[:api.MaxText]), put(0, 0, "a")}, api.OK},
		{exampleText, []api.Cut{cut(0, 0, own(wide[:api.MaxText]), copied(0, 1))}, nil, api.ErrLong},
		{exampleText, []api.Cut{cut(0, 0, fresh(wide))}, nil, api.ErrLong},
		{wide, []api.Cut{cut(0, 0, copied(0, api.MaxText))}, []api.Splice{put(0, 0, wide[:api.MaxText])}, api.OK},
		{wide, []api.Cut{cut(0, 0, copied(1, api.MaxText+2))}, nil, api.ErrLong},
		// From the first cut on, and of each its parts ahead of how long it is; whether all fit is asked last.
		{exampleText, []api.Cut{cut(0, 0, own(wide), copied(2, 1))}, nil, api.ErrArg},
		{exampleText, []api.Cut{cut(0, 0, own(wide)), cut(0, 0, copied(2, 1))}, nil, api.ErrLong},
		{exampleText, []api.Cut{cut(0, 0, copied(2, 1)), cut(0, 0, own(wide))}, nil, api.ErrArg},
		{exampleText, []api.Cut{cut(2, 1), cut(0, 0, own(wide))}, nil, api.ErrLong},
	} {
		got, e := Flat(c.text, c.l)
		if !slices.Equal(got, c.want) || e != c.e {
			t.Errorf("Flat %d: %d splices, %d, not %d, %d", i, len(got), e, len(c.want), c.e)
		}
	}
}

// TestFlatLikeModel: P7.4, of cuts of all kinds.
func TestFlatLikeModel(t *testing.T) {
	rnd := rand.New(rand.NewSource(74))
	for range 30000 {
		text := someText(rnd, 8)
		var l []api.Cut
		for _, s := range someFitting(rnd, len(text)) {
			c := cut(s.From, s.To)
			for range rnd.Intn(4) {
				c.Parts = append(c.Parts, somePart(rnd, len(text)))
			}
			l = append(l, c)
		}
		if len(l) > 0 && rnd.Intn(4) == 0 {
			l[rnd.Intn(len(l))].To += rnd.Intn(5) - 2
		}
		got, e := Flat(text, l)
		if want, wantE := flat(text, l); !slices.Equal(got, want) || e != wantE {
			t.Errorf("Flat(%q, %v): %v, %d, not %v, %d", text, l, got, e, want, wantE)
		}
	}
}

// doc is a document.
func doc(uri, text string, version int64) api.Doc {
	return api.Doc{URI: uri, Text: text, Version: version}
}

// edit are a document's splices.
func edit(uri string, version int64, l ...api.Splice) api.DocEdit {
	return api.DocEdit{URI: uri, Version: version, Splices: l}
}

// TestWhole: P7.5, the chapter's examples, documents of one URI, and which error is the first.
func TestWhole(t *testing.T) {
	long := strings.Repeat("a", api.MaxText+1)
	docs := []api.Doc{doc("v", "vvv", -7), doc("u", exampleText, 3), doc("u", "other", 2), doc("big", long, 1), doc("", "no name", 0)}
	bad := put(2, 1, "")
	for i, c := range []struct {
		l    []api.DocEdit
		text [5]string
		e    api.Errno
	}{
		{nil, [5]string{"vvv", exampleText, "other", long, "no name"}, api.OK},
		{[]api.DocEdit{edit("u", 3, example()...)}, [5]string{"vvv", "aXYZdef", "other", long, "no name"}, api.OK},
		{[]api.DocEdit{edit("u", 3, put(6, 6, "!")), edit("v", -7, put(0, 2, ""))}, [5]string{"v", "abcdef!", "other", long, "no name"}, api.OK},
		{[]api.DocEdit{edit("", 0, put(2, 7, "")), edit("big", 1, put(1, api.MaxText+1, ""))}, [5]string{"vvv", exampleText, "other", "a", "no"}, api.OK},
		{[]api.DocEdit{edit("u", 3)}, [5]string{"vvv", exampleText, "other", long, "no name"}, api.OK},
		{[]api.DocEdit{edit("u", 2)}, [5]string{}, api.ErrVersion},
		{[]api.DocEdit{edit("u", 4)}, [5]string{}, api.ErrVersion},
		{[]api.DocEdit{edit("w", 3)}, [5]string{}, api.ErrNone},
		{[]api.DocEdit{edit("U", 3)}, [5]string{}, api.ErrNone},
		{[]api.DocEdit{edit("u", 3), edit("u", 3)}, [5]string{}, api.ErrTwice},
		{[]api.DocEdit{edit("u", 3), edit("v", -7), edit("u", 2, bad)}, [5]string{}, api.ErrTwice},
		{[]api.DocEdit{edit("u", 3, bad)}, [5]string{}, api.ErrArg},
		{[]api.DocEdit{edit("big", 1)}, [5]string{}, api.ErrLong},
		{[]api.DocEdit{edit("v", -7, put(0, 0, long))}, [5]string{}, api.ErrLong},
		// From the first of them on.
		{[]api.DocEdit{edit("u", 3, bad), edit("u", 3)}, [5]string{}, api.ErrArg},
		{[]api.DocEdit{edit("u", 2, bad), edit("w", 1), edit("w", 1)}, [5]string{}, api.ErrVersion},
		{[]api.DocEdit{edit("w", 1, bad), edit("w", 1)}, [5]string{}, api.ErrNone},
		{[]api.DocEdit{edit("big", 1), edit("w", 1)}, [5]string{}, api.ErrLong},
	} {
		before := slices.Clone(docs)
		got, e := Whole(docs, c.l)
		if e != c.e || e != api.OK && len(got) > 0 {
			t.Errorf("Whole %d: %d documents, %d, not %d", i, len(got), e, c.e)
		}
		if e == api.OK && !sameDocs(got, docs, c.text[:]) {
			t.Errorf("Whole %d: other documents", i)
		}
		if !slices.Equal(docs, before) {
			t.Errorf("Whole %d changed the documents", i)
		}
	}
	if got, e := Whole(nil, nil); len(got) != 0 || e != api.OK {
		t.Errorf("Whole of none: %v, %d", got, e)
	}
	if got, e := Whole(nil, []api.DocEdit{edit("", 0)}); len(got) != 0 || e != api.ErrNone {
		t.Errorf("Whole of none, and an edit: %v, %d", got, e)
	}
}

// sameDocs tells whether documents are what others were, with these texts.
func sameDocs(got, were []api.Doc, texts []string) bool {
	return len(got) == len(were) && !slices.ContainsFunc([]int{0, 1, 2, 3, 4}, func(i int) bool {
		return got[i] != doc(were[i].URI, texts[i], were[i].Version)
	})
}

// TestWholeLikeModel: P7.5, of documents and edits that are alike at times.
func TestWholeLikeModel(t *testing.T) {
	rnd := rand.New(rand.NewSource(75))
	for range 30000 {
		var docs []api.Doc
		for range rnd.Intn(5) {
			docs = append(docs, doc([]string{"a", "b", "c", "d"}[rnd.Intn(4)], someText(rnd, 6), int64(rnd.Intn(2))))
		}
		var l []api.DocEdit
		for range rnd.Intn(4) {
			uri, n, version := "e", rnd.Intn(7), int64(rnd.Intn(2))
			if len(docs) > 0 && rnd.Intn(9) > 0 {
				d := docs[rnd.Intn(len(docs))]
				uri, n, version = d.URI, len(d.Text), d.Version
			}
			l = append(l, edit(uri, version, someFitting(rnd, n)...))
		}
		got, e := Whole(docs, l)
		if want, wantE := whole(docs, l); !slices.Equal(got, want) || e != wantE {
			t.Errorf("Whole(%v, %v): %v, %d, not %v, %d", docs, l, got, e, want, wantE)
		}
	}
}

// TestNewMemory: what is answered shares no list with what was handed in, which stays as it was.
func TestNewMemory(t *testing.T) {
	l := append(make([]api.Splice, 0, 9), example()...)
	sorted := Sort(l)
	back, _ := Invert(exampleText, l)
	docs := append(make([]api.Doc, 0, 9), doc("u", exampleText, 3), doc("v", "", 1))
	now, _ := Whole(docs, []api.DocEdit{edit("u", 3, l...)})
	cuts := []api.Cut{cut(0, 1, append(make([]api.Part, 0, 9), copied(1, 2))...), cut(3, 4, own("x"))}
	flat, _ := Flat(exampleText, cuts)
	for _, answer := range [][]api.Splice{sorted, back, flat} {
		for i := range answer {
			answer[i] = put(-5, -5, "gone")
		}
		_ = append(answer, put(-5, -5, "gone"))
	}
	for i := range now {
		now[i] = doc("gone", "gone", -5)
	}
	_ = append(now, doc("gone", "gone", -5))
	if !slices.Equal(l, example()) || l[:4][3] != (api.Splice{}) {
		t.Errorf("the splices were changed: %v", l[:4])
	}
	if docs[0] != doc("u", exampleText, 3) || docs[1] != doc("v", "", 1) || docs[:3][2] != (api.Doc{}) {
		t.Errorf("the documents were changed: %v", docs[:3])
	}
	if cuts[0].Parts[0] != copied(1, 2) || cuts[1].Parts[0] != own("x") || cuts[0].From != 0 || cuts[1].To != 4 {
		t.Errorf("the cuts were changed: %v", cuts)
	}
}

// TestNoPanic: numbers of all sizes, everywhere.
func TestNoPanic(t *testing.T) {
	numbers := []int{least, least + 1, -1, 0, 1, 2, 3, 4, 1 << 62, 1<<62 + 1, most - 1, most}
	for _, a := range numbers {
		for _, b := range numbers {
			for _, c := range numbers {
				l := []api.Splice{put(a, b, "x"), put(b, c, "")}
				Check(c, l)
				Sort(l)
				Apply("abc", l)
				Invert("abc", l)
				Moved(l, b)
				Moved(l, c)
				Flat("abc", []api.Cut{cut(a, b, copied(b, c)), cut(b, c)})
				Whole([]api.Doc{doc("u", "abc", 1)}, []api.DocEdit{edit("u", 1, l...), edit("", 0)})
			}
		}
	}
}

// TestMuch: P7.2 and P7.4 tell ErrLong of what would be far more than there is room for, without making it.
func TestMuch(t *testing.T) {
	wide := strings.Repeat("a", 1<<22)
	var l []api.Splice
	var parts []api.Part
	for range 1 << 17 {
		l = append(l, put(0, 0, wide))
		parts = append(parts, copied(0, len(wide)))
	}
	if got, e := Apply("", l); got != "" || e != api.ErrLong {
		t.Errorf("Apply: %d bytes, %d", len(got), e)
	}
	if got, e := Invert("", l); len(got) > 0 || e != api.ErrLong {
		t.Errorf("Invert: %d, %d", len(got), e)
	}
	if got, e := Flat(wide, []api.Cut{cut(0, 0, parts...)}); len(got) > 0 || e != api.ErrLong {
		t.Errorf("Flat: %d, %d", len(got), e)
	}
	if now, ok := Moved(l, 1); now != 1+len(l)*len(wide) || !ok {
		t.Errorf("Moved: %d, %t", now, ok)
	}
}

// TestManySplices: P7.2 and P7.3 of a text with as many splices as bytes.
func TestManySplices(t *testing.T) {
	text := strings.Repeat("ab", 1<<14)
	var l []api.Splice
	for at := 0; at < len(text); at += 2 {
		l = append(l, put(at, at+1, "xy"))
	}
	made, e := Apply(text, l)
	if made != strings.Repeat("xyb", 1<<14) || e != api.OK {
		t.Errorf("Apply: %d bytes, %d", len(made), e)
	}
	back, e := Invert(text, l)
	if again, e2 := Apply(made, back); again != text || e != api.OK || e2 != api.OK {
		t.Errorf("Apply of Invert: %d bytes, %d, %d", len(again), e, e2)
	}
	if now, ok := Moved(l, len(text)-1); now != len(made)-1 || !ok {
		t.Errorf("Moved: %d, %t, not %d", now, ok, len(made)-1)
	}
}
