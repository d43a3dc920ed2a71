package lines

import (
	"math/rand"
	"strconv"
	"strings"
	"testing"

	"emend/api"
	"emend/utf"
)

const (
	exampleS = "ab\r\nc\n\r"
	exampleU = "a\U0001f600b"
)

// texts are those that most tests go through: all short ones of ends and of two bytes more, and some of snippets.
func texts() []string {
	all := shortTexts("\r\na\x80", 5)
	rnd := rand.New(rand.NewSource(6))
	for range 3000 {
		all = append(all, some(rnd))
	}
	return append(all, exampleS, exampleU)
}

// TestCount: P6.1, of the chapter's examples, of each kind of end, and of what ends no line.
func TestCount(t *testing.T) {
	for s, want := range map[string]int{
		exampleS: 4, "": 1, exampleU: 1, "\n": 2, "\r": 2, "\r\n": 2, "\n\r": 3, "\r\r\n": 3, "\r\n\n": 3, "\r\n\r\n": 3, "\r\r": 3,
		"a\x0bb\x0cc\u0085d\u2028e\u2029f\x00g": 1, "\x8a\x8d": 1, "\xf0\x9f\n": 2,
	} {
		if n := Count(s); n != want {
			t.Errorf("Count(%q): %d, not %d", s, n, want)
		}
	}
}

// TestLine: P6.1, the chapter's examples, and numbers that no line has.
func TestLine(t *testing.T) {
	for _, c := range []struct {
		s        string
		n        int
		from, to int
		ok       bool
	}{
		{exampleS, 0, 0, 2, true}, {exampleS, 1, 4, 5, true}, {exampleS, 2, 6, 6, true}, {exampleS, 3, 7, 7, true},
		{exampleS, 4, 0, 0, false}, {exampleS, -1, 0, 0, false}, {exampleS, most, 0, 0, false}, {exampleS, least, 0, 0, false},
		{"", 0, 0, 0, true}, {"", 1, 0, 0, false}, {"", -1, 0, 0, false},
		{exampleU, 0, 0, 6, true}, {exampleU, 1, 0, 0, false}, {"\r\n", 0, 0, 0, true}, {"\r\n", 1, 2, 2, true},
	} {
		from, to, ok := Line(c.s, c.n)
		if from != c.from || to != c.to || ok != c.ok {
			t.Errorf("Line(%q, %d): %d %d %t, not %d %d %t", c.s, c.n, from, to, ok, c.from, c.to, c.ok)
		}
	}
}

// TestOffset: P6.2, the chapter's examples, and a Pos that may not be.
func TestOffset(t *testing.T) {
	for _, c := range []struct {
		s     string
		p     api.Pos
		place int
		e     api.Errno
	}{
		{exampleS, api.Pos{Line: 0, Char: 1}, 1, api.OK},
		{exampleS, api.Pos{Line: 0, Char: 9}, 2, api.OK},
		{exampleS, api.Pos{Line: 1, Char: 0}, 4, api.OK},
		{exampleS, api.Pos{Line: 1, Char: 5}, 5, api.OK},
		{exampleS, api.Pos{Line: 3, Char: 0}, 7, api.OK},
		{exampleS, api.Pos{Line: 9, Char: 9}, 7, api.OK},
		{exampleS, api.Pos{Line: 0, Char: -1}, 0, api.ErrArg},
		{exampleS, api.Pos{Line: -1, Char: 0}, 0, api.ErrArg},
		{exampleS, api.Pos{Line: 9, Char: -1}, 0, api.ErrArg},
		{exampleS, api.Pos{Line: least, Char: most}, 0, api.ErrArg},
		{exampleS, api.Pos{Line: 1, Char: least}, 0, api.ErrArg},
		{exampleS, api.Pos{Line: most, Char: most}, 7, api.OK},
		{exampleS, api.Pos{Line: 1, Char: most}, 5, api.OK},
		{exampleU, api.Pos{Line: 0, Char: 2}, 1, api.OK},
		{exampleU, api.Pos{Line: 0, Char: 3}, 5, api.OK},
		{"", api.Pos{Line: 0, Char: 0}, 0, api.OK},
		{"", api.Pos{Line: 0, Char: -1}, 0, api.ErrArg},
		{"x\n" + exampleU + "\r", api.Pos{Line: 1, Char: 2}, 3, api.OK},
		{"x\n" + exampleU + "\r", api.Pos{Line: 1, Char: 99}, 8, api.OK},
	} {
		place, e := Offset(c.s, c.p)
		if place != c.place || e != c.e {
			t.Errorf("Offset(%q, %v): %d, %d, not %d, %d", c.s, c.p, place, e, c.place, c.e)
		}
	}
}

// TestAt: P6.3, the chapter's examples, and numbers that are no place.
func TestAt(t *testing.T) {
	for _, c := range []struct {
		s     string
		place int
		want  api.Pos
	}{
		{exampleS, 0, api.Pos{Line: 0, Char: 0}}, {exampleS, 2, api.Pos{Line: 0, Char: 2}}, {exampleS, 3, api.Pos{Line: 0, Char: 2}},
		{exampleS, 4, api.Pos{Line: 1, Char: 0}}, {exampleS, 6, api.Pos{Line: 2, Char: 0}}, {exampleS, 7, api.Pos{Line: 3, Char: 0}},
		{exampleS, 99, api.Pos{Line: 3, Char: 0}}, {exampleS, -1, api.Pos{Line: 0, Char: 0}},
		{exampleS, most, api.Pos{Line: 3, Char: 0}}, {exampleS, least, api.Pos{Line: 0, Char: 0}},
		{exampleU, 5, api.Pos{Line: 0, Char: 3}}, {exampleU, 3, api.Pos{Line: 0, Char: 1}}, {exampleU, most, api.Pos{Line: 0, Char: 4}},
		{"", 0, api.Pos{}}, {"", 1, api.Pos{}}, {"", -1, api.Pos{}},
		{"a\xf0\x9f\n", 3, api.Pos{Line: 0, Char: 3}},
	} {
		if p := At(c.s, c.place); p != c.want {
			t.Errorf("At(%q, %d): %v, not %v", c.s, c.place, p, c.want)
		}
	}
}

// TestFull: P6.3.
func TestFull(t *testing.T) {
	for s, want := range map[string]api.Pos{"": {}, exampleS: {Line: 3}, exampleU: {Char: 4}, "a\n\u00e9\U0001f600": {Line: 1, Char: 3}} {
		if r := Full(s); r != (api.Range{To: want}) {
			t.Errorf("Full(%q): %v, not to %v", s, r, want)
		}
	}
	for _, s := range texts() {
		from, to, e := Cut(s, Full(s))
		if from != 0 || to != len(s) || e != api.OK || Full(s).To != at(s, len(s)) {
			t.Errorf("Full(%q): %v, which is %d to %d, %d", s, Full(s), from, to, e)
		}
	}
}

// span4 is a range by its four numbers.
func span4(a, b, c, d int) api.Range {
	return api.Range{From: api.Pos{Line: a, Char: b}, To: api.Pos{Line: c, Char: d}}
}

// TestCut: P6.2, the chapter's examples; that places are held against each other, not numbers of lines and units.
func TestCut(t *testing.T) {
	for _, c := range []struct {
		r        api.Range
		from, to int
		e        api.Errno
	}{
		{span4(0, 1, 1, 1), 1, 5, api.OK},
		{span4(1, 0, 0, 0), 0, 0, api.ErrArg},
		{span4(0, 2, 0, 1), 0, 0, api.ErrArg},
		{span4(0, 1, 0, 1), 1, 1, api.OK},
		{span4(0, 9, 0, 2), 2, 2, api.OK},
		{span4(9, 9, 3, 0), 7, 7, api.OK},
		{span4(9, 9, 4, 0), 7, 7, api.OK},
		{span4(9, 9, 2, 0), 0, 0, api.ErrArg},
		{span4(0, 0, most, most), 0, 7, api.OK},
		{span4(-1, 0, 1, 1), 0, 0, api.ErrArg},
		{span4(0, -1, 1, 1), 0, 0, api.ErrArg},
		{span4(0, 1, -1, 1), 0, 0, api.ErrArg},
		{span4(0, 1, 1, -1), 0, 0, api.ErrArg},
		{span4(1, 1, least, least), 0, 0, api.ErrArg},
	} {
		from, to, e := Cut(exampleS, c.r)
		if from != c.from || to != c.to || e != c.e {
			t.Errorf("Cut(%v): %d %d %d, not %d %d %d", c.r, from, to, e, c.from, c.to, c.e)
		}
	}
}

// TestLinesLikeModel: P6.1 and P6.5: each line, and that all of them with their ends are the text.
func TestLinesLikeModel(t *testing.T) {
	for _, s := range texts() {
		all := rows(s)
		if n := Count(s); n != len(all) {
			t.Errorf("Count(%q): %d, not %d", s, n, len(all))
		}
		next := 0
		for n, r := range all {
			from, to, ok := Line(s, n)
			if from != r.from || to != r.to || !ok {
				t.Errorf("Line(%q, %d): %d %d %t, not %d %d", s, n, from, to, ok, r.from, r.to)
			}
			if from != next || strings.ContainsAny(s[from:to], "\r\n") {
				t.Errorf("Line(%q, %d): from %d to %d, not from %d on, or with an end within", s, n, from, to, next)
			}
			next = r.end
		}
		for _, n := range []int{len(all), len(all) + 1, -1, most, least} {
			if from, to, ok := Line(s, n); from != 0 || to != 0 || ok {
				t.Errorf("Line(%q, %d): %d %d %t, but there is none", s, n, from, to, ok)
			}
		}
	}
}

// TestPlacesLikeModel: P6.2 and P6.3, of each place and each Pos about the text.
func TestPlacesLikeModel(t *testing.T) {
	for _, s := range texts() {
		for _, place := range append(about(len(s)), most, least) {
			if p := At(s, place); p != at(s, place) {
				t.Errorf("At(%q, %d): %v, not %v", s, place, p, at(s, place))
			}
		}
		for _, line := range append(about(len(rows(s))), most, least) {
			for _, char := range append(about(min(len(s), 6)), most, least) {
				p := api.Pos{Line: line, Char: char}
				got, e := Offset(s, p)
				if want, wantE := offset(s, p); got != want || e != wantE {
					t.Errorf("Offset(%q, %v): %d, %d, not %d, %d", s, p, got, e, want, wantE)
				}
			}
		}
	}
}

// about are the numbers from a bit below 0 to a bit above n.
func about(n int) []int {
	var all []int
	for i := -2; i <= n+2; i++ {
		all = append(all, i)
	}
	return all
}

// TestCutsLikeModel: P6.2, of ranges of all kinds.
func TestCutsLikeModel(t *testing.T) {
	rnd := rand.New(rand.NewSource(62))
	for _, s := range texts() {
		for range 20 {
			r := span4(rnd.Intn(6)-1, rnd.Intn(6)-1, rnd.Intn(6)-1, rnd.Intn(6)-1)
			from, to, e := Cut(s, r)
			if a, b, c := cut(s, r); from != a || to != b || e != c {
				t.Errorf("Cut(%q, %v): %d %d %d, not %d %d %d", s, r, from, to, e, a, b, c)
			}
		}
	}
}

// TestThereAndBack: P6.4: Offset of At is the place, or is ahead of it in the midst of a piece or of a line's end; both rise.
func TestThereAndBack(t *testing.T) {
	for _, s := range texts() {
		last, lastPos := 0, api.Pos{}
		for place := range len(s) + 1 {
			p := At(s, place)
			back, e := Offset(s, p)
			amid := utf.Byte(s, utf.UnitsAt(s, place)) != place || place > 0 && place < len(s) && s[place-1:place+1] == "\r\n"
			if e != api.OK || !amid && back != place || amid && back >= place {
				t.Errorf("Offset of At of %q and %d: %d, %d, amid is %t", s, place, back, e, amid)
			}
			if back < last || before(p, lastPos) {
				t.Errorf("At(%q, %d) or its Offset does not rise: %v, %d", s, place, p, back)
			}
			last, lastPos = back, p
		}
		last = 0
		for line := range len(rows(s)) + 2 {
			for char := range min(len(s), 6) + 2 {
				place, _ := Offset(s, api.Pos{Line: line, Char: char})
				if place < last {
					t.Errorf("Offset(%q, %d %d): %d, behind %d", s, line, char, place, last)
				}
				last = place
			}
		}
	}
}

// before tells whether a Pos is ahead of another one.
func before(a, b api.Pos) bool {
	return a.Line < b.Line || a.Line == b.Line && a.Char < b.Char
}

// TestBehindIsOfNoWeight: P6.5: what is put behind a line leaves the lines ahead of it, but a byte 10 behind a byte 13.
func TestBehindIsOfNoWeight(t *testing.T) {
	rnd := rand.New(rand.NewSource(65))
	for _, s := range texts() {
		more := some(rnd)
		if strings.HasSuffix(s, "\r") && strings.HasPrefix(more, "\n") {
			if from, to, ok := Line(s+more, Count(s)-1); !ok || from != len(s)+1 || to < from {
				t.Errorf("of %q with %q behind: the last line is from %d to %d, %t", s, more, from, to, ok)
			}
			continue
		}
		for n := range Count(s) - 1 {
			from, to, _ := Line(s, n)
			if a, b, ok := Line(s+more, n); a != from || b != to || !ok {
				t.Errorf("of %q with %q behind: line %d is from %d to %d, %t, not from %d to %d", s, more, n, a, b, ok, from, to)
			}
			for place := from; place <= to; place++ {
				if At(s, place) != At(s+more, place) {
					t.Errorf("of %q with %q behind: At of %d is %v, not %v", s, more, place, At(s+more, place), At(s, place))
				}
			}
		}
	}
}

// TestNoPanic: P6.6, of all texts of one or two bytes and of a long one, with numbers of all sizes.
func TestNoPanic(t *testing.T) {
	var all []string
	for b := range 1 << 16 {
		all = append(all, string([]byte{byte(b), byte(b >> 8)}))
	}
	all = append(all, strings.Repeat("a\r\n", 1<<14))
	for _, s := range all {
		Count(s)
		Full(s)
		for _, n := range []int{least, -1, 0, 1, 2, 3, most - 1, most} {
			Line(s, n)
			At(s, n)
			Offset(s, api.Pos{Line: n, Char: 1})
			Cut(s, span4(0, n, n, 0))
		}
	}
}

// TestLongText: P6.1 to P6.3 of many lines.
func TestLongText(t *testing.T) {
	var b strings.Builder
	for n := range 5000 {
		b.WriteString(strconv.Itoa(n) + "\U0001f600\r\n")
	}
	s := b.String()
	if n := Count(s); n != 5001 {
		t.Errorf("Count: %d, not 5001", n)
	}
	from, to, ok := Line(s, 4321)
	if !ok || s[from:to] != "4321\U0001f600" {
		t.Errorf("Line 4321: %q, %t", s[from:to], ok)
	}
	if p := At(s, to+1); p != (api.Pos{Line: 4321, Char: 6}) {
		t.Errorf("At of what is amid its end: %v", p)
	}
	if place, e := Offset(s, api.Pos{Line: 4321, Char: 5}); place != from+4 || e != api.OK {
		t.Errorf("Offset of 4321 5: %d, %d, not %d", place, e, from+4)
	}
}
