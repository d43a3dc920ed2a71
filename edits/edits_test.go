package edits

import (
	"math/rand"
	"slices"
	"strings"
	"testing"

	"emend/api"
)

const exampleText = "abcdef"

// example are the splices of the chapter's first example.
func example() []api.Splice {
	return []api.Splice{put(1, 3, "X"), put(3, 3, "Y"), put(3, 3, "Z")}
}

// TestCheck: P7.1, the chapter's examples, splices that touch, and the bounds.
func TestCheck(t *testing.T) {
	for _, c := range []struct {
		n int
		l []api.Splice
		e api.Errno
	}{
		{6, example(), api.OK},
		{6, []api.Splice{put(3, 4, "x"), put(2, 2, "y")}, api.ErrArg},
		{6, []api.Splice{put(0, 7, "x")}, api.ErrArg},
		{6, []api.Splice{put(2, 1, "x")}, api.ErrArg},
		{6, []api.Splice{put(-1, 0, "x")}, api.ErrArg},
		{6, nil, api.OK}, {0, nil, api.OK}, {-1, nil, api.ErrArg}, {least, nil, api.ErrArg}, {most, nil, api.OK},
		{-1, []api.Splice{put(-1, -1, "")}, api.ErrArg},
		{0, []api.Splice{put(0, 0, "x"), put(0, 0, "y")}, api.OK},
		{0, []api.Splice{put(0, 1, "")}, api.ErrArg},
		{6, []api.Splice{put(0, 6, "")}, api.OK},
		{6, []api.Splice{put(6, 6, "")}, api.OK},
		{6, []api.Splice{put(7, 7, "")}, api.ErrArg},
		{6, []api.Splice{put(-1, -1, "")}, api.ErrArg},
		{6, []api.Splice{put(1, 3, ""), put(3, 6, "")}, api.OK},
		{6, []api.Splice{put(1, 3, ""), put(2, 6, "")}, api.ErrArg},
		{6, []api.Splice{put(1, 3, ""), put(1, 3, "")}, api.ErrArg},
		{6, []api.Splice{put(1, 3, ""), put(1, 1, "")}, api.ErrArg},
		{6, []api.Splice{put(1, 1, ""), put(1, 3, "")}, api.OK},
		{6, []api.Splice{put(1, 1, ""), put(1, 3, ""), put(3, 3, ""), put(5, 7, "")}, api.ErrArg},
		{most, []api.Splice{put(0, most, ""), put(most, most, "")}, api.OK},
		{most, []api.Splice{put(least, most, "")}, api.ErrArg},
		{most, []api.Splice{put(most, least, "")}, api.ErrArg},
	} {
		if e := Check(c.n, c.l); e != c.e {
			t.Errorf("Check(%d, %v): %d, not %d", c.n, c.l, e, c.e)
		}
	}
}

// TestCheckLikeModel: P7.1, of all lists of up to two splices, and of longer ones.
func TestCheckLikeModel(t *testing.T) {
	likeModel := func(n int, l []api.Splice) {
		if e := Check(n, l); (e == api.OK) != fits(n, l) || e != api.OK && e != api.ErrArg {
			t.Errorf("Check(%d, %v): %d, but it fits is %t", n, l, e, fits(n, l))
		}
	}
	for _, l := range shortLists(3) {
		for n := -2; n <= 4; n++ {
			likeModel(n, l)
		}
	}
	rnd := rand.New(rand.NewSource(71))
	for range 20000 {
		l := someFitting(rnd, 8)
		likeModel(8, l)
		if len(l) > 0 {
			at := rnd.Intn(len(l))
			l[at].From += rnd.Intn(3) - 1
			l[at].To += rnd.Intn(3) - 1
		}
		likeModel(8, l)
		likeModel(7, l)
	}
}

// TestSort: P7.1, the chapter's example, and splices of all numbers.
func TestSort(t *testing.T) {
	for _, c := range []struct{ l, want []api.Splice }{
		{nil, nil},
		{[]api.Splice{put(3, 4, "x"), put(3, 3, "y"), put(1, 2, "z")}, []api.Splice{put(1, 2, "z"), put(3, 3, "y"), put(3, 4, "x")}},
		{[]api.Splice{put(2, 2, "b"), put(2, 2, "a"), put(2, 2, "b")}, []api.Splice{put(2, 2, "b"), put(2, 2, "a"), put(2, 2, "b")}},
		{[]api.Splice{put(most, 0, ""), put(least, 0, ""), put(0, most, ""), put(0, least, "")},
			[]api.Splice{put(least, 0, ""), put(0, least, ""), put(0, most, ""), put(most, 0, "")}},
	} {
		before := slices.Clone(c.l)
		if got := Sort(c.l); !slices.Equal(got, c.want) {
			t.Errorf("Sort(%v): %v, not %v", c.l, got, c.want)
		}
		if !slices.Equal(c.l, before) {
			t.Errorf("Sort changed %v to %v", before, c.l)
		}
	}
}

// TestSortLikeModel: P7.1: each splice stands behind all that are ahead of it by their numbers, or are alike and stood there.
func TestSortLikeModel(t *testing.T) {
	rnd := rand.New(rand.NewSource(72))
	for range 3000 {
		var l, want []api.Splice
		for range rnd.Intn(60) {
			s := put(rnd.Intn(4)-1, rnd.Intn(4)-1, string(rune('a'+rnd.Intn(26))))
			l = append(l, s)
			at := 0
			for at < len(want) && (want[at].From < s.From || want[at].From == s.From && want[at].To <= s.To) {
				at++
			}
			want = slices.Insert(want, at, s)
		}
		if got := Sort(l); !slices.Equal(got, want) {
			t.Errorf("Sort(%v): %v, not %v", l, got, want)
		}
	}
}

// TestApply: P7.2, the chapter's examples, and splices that do not fit.
func TestApply(t *testing.T) {
	for _, c := range []struct {
		text string
		l    []api.Splice
		want string
		e    api.Errno
	}{
		{exampleText, example(), "aXYZdef", api.OK},
		{exampleText, nil, exampleText, api.OK},
		{"", nil, "", api.OK},
		{"", []api.Splice{put(0, 0, "x")}, "x", api.OK},
		{exampleText, []api.Splice{put(0, 6, "")}, "", api.OK},
		{exampleText, []api.Splice{put(0, 0, "x"), put(6, 6, "y")}, "xabcdefy", api.OK},
		{exampleText, []api.Splice{put(0, 1, ""), put(1, 2, ""), put(2, 3, "C")}, "Cdef", api.OK},
		{"\u00e9", []api.Splice{put(1, 2, "\xff")}, "\xc3\xff", api.OK},
		{exampleText, []api.Splice{put(0, 7, "")}, "", api.ErrArg},
		{exampleText, []api.Splice{put(3, 4, "x"), put(2, 2, "y")}, "", api.ErrArg},
		{"", []api.Splice{put(0, 1, "")}, "", api.ErrArg},
	} {
		if got, e := Apply(c.text, c.l); got != c.want || e != c.e {
			t.Errorf("Apply(%q, %v): %q, %d, not %q, %d", c.text, c.l, got, e, c.want, c.e)
		}
	}
}

// TestTooLong: P7.2, of texts about the bound, by Apply and by Invert: what is made counts, not what it is made of.
func TestTooLong(t *testing.T) {
	full := strings.Repeat("a", api.MaxText)
	over := full + "b"
	for _, c := range []struct {
		text string
		l    []api.Splice
		e    api.Errno
	}{
		{full, nil, api.OK},
		{over, nil, api.ErrLong},
		{over, []api.Splice{put(7, 8, "")}, api.OK},
		{full, []api.Splice{put(7, 7, "x")}, api.ErrLong},
		{full, []api.Splice{put(7, 7, "x"), put(9, 10, "")}, api.OK},
		{full, []api.Splice{put(7, 8, "xy")}, api.ErrLong},
		{"", []api.Splice{put(0, 0, full)}, api.OK},
		{"", []api.Splice{put(0, 0, over)}, api.ErrLong},
		{"", []api.Splice{put(0, 0, full), put(0, 0, "b")}, api.ErrLong},
		{"c", []api.Splice{put(0, 1, full)}, api.OK},
		{over, []api.Splice{put(0, api.MaxText+1, "")}, api.OK},
		{over, []api.Splice{put(0, api.MaxText+2, "")}, api.ErrArg},
		{over, []api.Splice{put(2, 1, over)}, api.ErrArg},
	} {
		got, e := Apply(c.text, c.l)
		if want, _ := apply(c.text, c.l); got != want || e != c.e {
			t.Errorf("Apply of %d bytes: %d bytes, %d, not %d, %d", len(c.text), len(got), e, len(want), c.e)
		}
		back, e := Invert(c.text, c.l)
		if e != c.e || e != api.OK && len(back) > 0 || e == api.OK && len(back) != len(c.l) {
			t.Errorf("Invert of %d bytes: %d splices, %d, not %d", len(c.text), len(back), e, c.e)
		}
	}
}

// TestInvert: P7.2, the chapter's example, and splices that do not fit.
func TestInvert(t *testing.T) {
	for _, c := range []struct {
		text string
		l    []api.Splice
		want []api.Splice
		e    api.Errno
	}{
		{exampleText, example(), []api.Splice{put(1, 2, "bc"), put(2, 3, ""), put(3, 4, "")}, api.OK},
		{exampleText, nil, nil, api.OK},
		{exampleText, []api.Splice{put(2, 2, "")}, []api.Splice{put(2, 2, "")}, api.OK},
		{exampleText, []api.Splice{put(0, 6, "")}, []api.Splice{put(0, 0, exampleText)}, api.OK},
		{exampleText, []api.Splice{put(0, 2, ""), put(4, 6, "xyz")}, []api.Splice{put(0, 0, "ab"), put(2, 5, "ef")}, api.OK},
		{exampleText, []api.Splice{put(4, 3, "")}, nil, api.ErrArg},
		{exampleText, []api.Splice{put(3, 4, "x"), put(2, 2, "y")}, nil, api.ErrArg},
	} {
		if got, e := Invert(c.text, c.l); !slices.Equal(got, c.want) || e != c.e {
			t.Errorf("Invert(%q, %v): %v, %d, not %v, %d", c.text, c.l, got, e, c.want, c.e)
		}
	}
}

// eachChange has a look at many texts and splices, of which some do not fit.
func eachChange(look func(text string, l []api.Splice)) {
	for _, l := range shortLists(3) {
		look("abc", l)
	}
	rnd := rand.New(rand.NewSource(73))
	for range 20000 {
		text := someText(rnd, 12)
		look(text, someFitting(rnd, len(text)))
	}
}

// TestTextsLikeModel: P7.2.
func TestTextsLikeModel(t *testing.T) {
	eachChange(func(text string, l []api.Splice) {
		got, e := Apply(text, l)
		if want, wantE := apply(text, l); got != want || e != wantE {
			t.Errorf("Apply(%q, %v): %q, %d, not %q, %d", text, l, got, e, want, wantE)
		}
		back, e := Invert(text, l)
		if want, wantE := invert(text, l); !slices.Equal(back, want) || e != wantE {
			t.Errorf("Invert(%q, %v): %v, %d, not %v, %d", text, l, back, e, want, wantE)
		}
	})
}

// TestLeadsBack: P7.6: what Invert tells is in order, fits what Apply makes, and leads back; its own inverse leads there again.
func TestLeadsBack(t *testing.T) {
	eachChange(func(text string, l []api.Splice) {
		made, e := Apply(text, l)
		if e != api.OK {
			return
		}
		back, e := Invert(text, l)
		if e != api.OK || Check(len(made), back) != api.OK || !slices.Equal(Sort(back), back) {
			t.Errorf("Invert(%q, %v): %v, %d, which is not in order, or does not fit %q", text, l, back, e, made)
		}
		if again, e := Apply(made, back); again != text || e != api.OK {
			t.Errorf("Apply of Invert(%q, %v): %q, %d", text, l, again, e)
		}
		if again, e := Invert(made, back); !slices.Equal(again, l) || e != api.OK {
			t.Errorf("Invert of Invert(%q, %v): %v, %d", text, l, again, e)
		}
	})
}

// TestMoved: P7.3, the chapter's examples, the bounds, and splices that fit no text.
func TestMoved(t *testing.T) {
	for _, c := range []struct {
		l   []api.Splice
		at  int
		now int
		ok  bool
	}{
		{example(), 0, 0, true}, {example(), 1, 0, false}, {example(), 2, 0, false}, {example(), 3, 4, true}, {example(), 6, 7, true},
		{example(), 99, 100, true}, {example(), -1, 0, false}, {example(), least, 0, false}, {example(), most, 0, false},
		{nil, 0, 0, true}, {nil, 5, 5, true}, {nil, -1, 0, false},
		{nil, 1 << 62, 1 << 62, true}, {nil, 1<<62 + 1, 0, false}, {nil, most, 0, false},
		{[]api.Splice{put(0, 1, "xy")}, 1 << 62, 1<<62 + 1, true},
		{[]api.Splice{put(0, 1<<62, "xy")}, 1 << 62, 2, true},
		{[]api.Splice{put(0, most, "")}, 1 << 62, 0, false},
		{[]api.Splice{put(0, most, "")}, 0, 0, false},
		{[]api.Splice{put(1, most, "xyz")}, 0, 0, true},
		{[]api.Splice{put(most, most, "xyz")}, 5, 5, true},
		{[]api.Splice{put(2, 2, "xyz")}, 1, 1, true},
		{[]api.Splice{put(2, 2, "xyz")}, 2, 5, true},
		{[]api.Splice{put(2, 4, "")}, 1, 1, true}, {[]api.Splice{put(2, 4, "")}, 2, 0, false},
		{[]api.Splice{put(2, 4, "")}, 3, 0, false}, {[]api.Splice{put(2, 4, "")}, 4, 2, true},
		{[]api.Splice{put(3, 2, "")}, 0, 0, false}, {[]api.Splice{put(3, 2, "")}, 9, 0, false},
		{[]api.Splice{put(-1, 0, "x")}, 4, 0, false},
		{[]api.Splice{put(3, 4, "x"), put(2, 2, "y")}, 0, 0, false}, {[]api.Splice{put(3, 4, "x"), put(2, 2, "y")}, 9, 0, false},
		{[]api.Splice{put(8, 9, "x"), put(7, 7, "y")}, 1, 0, false},
		{[]api.Splice{put(least, most, "")}, 1, 0, false},
	} {
		if now, ok := Moved(c.l, c.at); now != c.now || ok != c.ok {
			t.Errorf("Moved(%v, %d): %d, %t, not %d, %t", c.l, c.at, now, ok, c.now, c.ok)
		}
	}
}

// TestMovedLikeModel: P7.3 of each place of many texts, and of splices that fit none.
func TestMovedLikeModel(t *testing.T) {
	eachChange(func(text string, l []api.Splice) {
		if !fits(most, l) {
			for at := -1; at <= len(text)+1; at++ {
				if now, ok := Moved(l, at); now != 0 || ok {
					t.Errorf("Moved(%v, %d): %d, %t, of what fits no text", l, at, now, ok)
				}
			}
			return
		}
		text += "." // about the text abc there are splices that end one byte behind it
		for at := range len(text) + 1 {
			now, ok := Moved(l, at)
			if want, wantOk := moved(text, l, at); now != want || ok != wantOk {
				t.Errorf("Moved(%v, %d) of %q: %d, %t, not %d, %t", l, at, text, now, ok, want, wantOk)
			}
		}
	})
}

// TestKept: P7.6: a byte that is kept is the same one, such bytes rise, and what is not one of them a Text brought.
func TestKept(t *testing.T) {
	eachChange(func(text string, l []api.Splice) {
		made, e := Apply(text, l)
		if e != api.OK {
			return
		}
		brought := 0
		for _, s := range l {
			brought += len(s.Text)
		}
		last, kept := -1, 0
		for at := range len(text) {
			now, ok := Moved(l, at)
			if !ok {
				continue
			}
			if now <= last || made[now] != text[at] {
				t.Errorf("Moved(%v, %d) of %q: %d, behind %d, in %q", l, at, text, now, last, made)
			}
			last = now
			kept++
		}
		if kept+brought != len(made) {
			t.Errorf("of %q and %v: %d bytes are kept, %d brought, of %d", text, l, kept, brought, len(made))
		}
		if end, ok := Moved(l, len(text)); end != len(made) || !ok {
			t.Errorf("Moved(%v, %d), the end of %q: %d, %t, not %d", l, len(text), text, end, ok, len(made))
		}
	})
}
