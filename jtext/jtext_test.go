package jtext

import (
	"slices"
	"strings"
	"testing"

	"emend/api"
)

// sayIfWrong holds Tokens of a text against the model.
func sayIfWrong(t *testing.T, s string) {
	t.Helper()
	l, place, e := Tokens(s)
	wantL, wantPlace, wantE := modelTokens(s)
	if !slices.Equal(l, wantL) || place != wantPlace || e != wantE {
		t.Errorf("Tokens(%q): %+v, %d, %d, not %+v, %d, %d", s, l, place, e, wantL, wantPlace, wantE)
	}
}

// TestTokensExamples: P3.1, the chapter's examples, and what is like them.
func TestTokensExamples(t *testing.T) {
	for _, c := range []struct {
		s string
		l []Token
	}{
		{`{"a":-1.5e3}`, []Token{{Mark, "{", 0, 1}, {String, "a", 1, 4}, {Mark, ":", 4, 5}, {Number, "-1.5e3", 5, 11}, {Mark, "}", 11, 12}}},
		{`"\u00e9\ud83d\ude00"`, []Token{{String, "\u00e9\U0001f600", 0, 20}}},
		{"01", []Token{{Number, "0", 0, 1}, {Number, "1", 1, 2}}},
		{"", nil},
		{" \t\r\n", nil},
		{" [ ] ", []Token{{Mark, "[", 1, 2}, {Mark, "]", 3, 4}}},
		{"{}[]:,", []Token{{Mark, "{", 0, 1}, {Mark, "}", 1, 2}, {Mark, "[", 2, 3}, {Mark, "]", 3, 4}, {Mark, ":", 4, 5}, {Mark, ",", 5, 6}}},
		{"true\nfalse null", []Token{{Word, "true", 0, 4}, {Word, "false", 5, 10}, {Word, "null", 11, 15}}},
		{"1true\"\"", []Token{{Number, "1", 0, 1}, {Word, "true", 1, 5}, {String, "", 5, 7}}},
		{"true1", []Token{{Word, "true", 0, 4}, {Number, "1", 4, 5}}},
		{"-01-2", []Token{{Number, "-0", 0, 2}, {Number, "1", 2, 3}, {Number, "-2", 3, 5}}},
		{"0.00E+00,1e5", []Token{{Number, "0.00E+00", 0, 8}, {Mark, ",", 8, 9}, {Number, "1e5", 9, 12}}},
		{`"\"\\\/\b\f\n\r\t"`, []Token{{String, "\"\\/\b\f\n\r\t", 0, 18}}},
		{`"\uABcd\uffFF"`, []Token{{String, "\uabcd\uffff", 0, 14}}},
		{`"\u0000\ud7ff\ue000"`, []Token{{String, "\x00\ud7ff\ue000", 0, 20}}},
		{`"\uD800\uDC00\udbff\udfff"`, []Token{{String, "\U00010000\U0010ffff", 0, 26}}},
		{"\"\x7f/\u00e9\ufffd\U0001f600\"", []Token{{String, "\x7f/\u00e9\ufffd\U0001f600", 0, 13}}},
		{`"a""b"`, []Token{{String, "a", 0, 3}, {String, "b", 3, 6}}},
		{`"tr\u0075e"`, []Token{{String, "true", 0, 11}}},
	} {
		if l, place, e := Tokens(c.s); !slices.Equal(l, c.l) || place != 0 || e != api.OK {
			t.Errorf("Tokens(%q): %+v, %d, %d, not %+v", c.s, l, place, e, c.l)
		}
	}
}

// TestTokensFaults: P3.1, the chapter's examples of what is wrong, and what is like them.
func TestTokensFaults(t *testing.T) {
	for _, c := range []struct {
		s     string
		place int
		e     api.Errno
	}{
		{"1.", 1, api.ErrForm},
		{"-", 0, api.ErrForm},
		{"tru", 0, api.ErrForm},
		{`"a`, 0, api.ErrForm},
		{`"\ud800"`, 0, api.ErrForm},
		{`"\ude00\ud83d"`, 0, api.ErrForm},
		{"[\xff", 1, api.ErrUtf},
		{"1.e5", 1, api.ErrForm},
		{"1e", 1, api.ErrForm},
		{"1.5e+", 3, api.ErrForm},
		{"1.5true.", 7, api.ErrForm},
		{".5", 0, api.ErrForm},
		{"+1", 0, api.ErrForm},
		{"--1", 0, api.ErrForm},
		{" -a", 1, api.ErrForm},
		{"truefalse", 0, api.ErrForm},
		{"trueX", 4, api.ErrForm},
		{"True", 0, api.ErrForm},
		{"[1, nul]", 4, api.ErrForm},
		{"\v", 0, api.ErrForm},
		{"\ufeff{}", 0, api.ErrForm},
		{"1\u00a02", 1, api.ErrForm},
		{`{"a":"b}`, 5, api.ErrForm},
		{`"`, 0, api.ErrForm},
		{`"\`, 0, api.ErrForm},
		{`"\"`, 0, api.ErrForm},
		{`"\x41"`, 0, api.ErrForm},
		{`"\u12"`, 0, api.ErrForm},
		{`"\u12g4"`, 0, api.ErrForm},
		{`"\u+123"`, 0, api.ErrForm},
		{`"\U0041"`, 0, api.ErrForm},
		{`"\ud800\u0041"`, 0, api.ErrForm},
		{`"\ud800\ud800"`, 0, api.ErrForm},
		{`"\ud800x\udc00"`, 0, api.ErrForm},
		{`"\ud800udc00"`, 0, api.ErrForm},
		{`"\ud83dxude00"`, 0, api.ErrForm},
		{`"\ud83d/ude00"`, 0, api.ErrForm},
		{`"\udc00"`, 0, api.ErrForm},
		{`"\u00e`, 0, api.ErrForm},
		{`"\ud83d\ude0`, 0, api.ErrForm},
		{"\"\n\"", 0, api.ErrForm},
		{"\"\x1f\"", 0, api.ErrForm},
		{`'a'`, 0, api.ErrForm},
		{"tru\xff", 3, api.ErrUtf}, // named ahead of ErrForm
		{"\"\u00e9\xc3\"", 3, api.ErrUtf},
		{"\xed\xa0\x80", 0, api.ErrUtf},
		{"\xe2\x82", 0, api.ErrUtf},
		{"\ufffd\x80", 3, api.ErrUtf},
		{"\xc0\x80", 0, api.ErrUtf},
		{"\xf4\x90\x80\x80", 0, api.ErrUtf},
		{"\xf5\x80\x80\x80", 0, api.ErrUtf},
	} {
		if l, place, e := Tokens(c.s); l != nil || place != c.place || e != c.e {
			t.Errorf("Tokens(%q): %+v, %d, %d, not %d, %d", c.s, l, place, e, c.place, c.e)
		}
	}
}

// TestTokensOfBytes: P3.1, Tokens of all one or two bytes, and of three and four at the edges of what bytes may stand where.
func TestTokensOfBytes(t *testing.T) {
	for a := range 256 {
		sayIfWrong(t, string([]byte{byte(a)}))
		for b := range 256 {
			sayIfWrong(t, string([]byte{byte(a), byte(b)}))
			sayIfWrong(t, string([]byte{'"', '\\', byte(a), byte(b), '"'}))
		}
	}
	edges := []byte{'"', 0x7f, 0x80, 0x8f, 0x90, 0x9f, 0xa0, 0xbf, 0xc0, 0xc1, 0xc2, 0xdf, 0xe0, 0xe1, 0xed, 0xee, 0xef, 0xf0, 0xf1, 0xf4, 0xf5, 0xff}
	for _, a := range edges {
		for _, b := range edges {
			for _, c := range edges {
				sayIfWrong(t, string([]byte{'"', a, b, c}))
				for _, d := range edges {
					sayIfWrong(t, string([]byte{'"', a, b, c, d, '"'}))
				}
			}
		}
	}
}

// TestTokensOfNumbers: P3.1, Tokens of all short texts of what numbers are made of.
func TestTokensOfNumbers(t *testing.T) {
	last := []string{""}
	for range 6 {
		var next []string
		for _, s := range last {
			for _, c := range []string{"-", "+", "0", "7", ".", "e", "E"} {
				sayIfWrong(t, s+c)
				next = append(next, s+c)
			}
		}
		last = next
	}
}

// TestTokensOfUnits: P3.1, every escape of four hex digits by itself, and pairs of them at the edges of surrogates.
func TestTokensOfUnits(t *testing.T) {
	const hex = "0123456789aBcDeF"
	unit := func(n int) string {
		return `\u` + string([]byte{hex[n>>12], hex[n>>8&15], hex[n>>4&15], hex[n&15]})
	}
	for n := range 0x10000 {
		l, _, e := Tokens(`"` + unit(n) + `"`)
		if n >= 0xd800 && n <= 0xdfff {
			if l != nil || e != api.ErrForm {
				t.Fatalf("%x: %+v, %d", n, l, e)
			}
			continue
		}
		if want := (Token{String, string(rune(n)), 0, 8}); e != api.OK || len(l) != 1 || l[0] != want {
			t.Fatalf("%x: %+v, %d", n, l, e)
		}
	}
	edges := []int{0, 0xd7ff, 0xd800, 0xd801, 0xdbfe, 0xdbff, 0xdc00, 0xdc01, 0xdffe, 0xdfff, 0xe000, 0xffff}
	for _, a := range edges {
		for _, b := range edges {
			l, place, e := Tokens(`"` + unit(a) + unit(b) + `"`)
			want := api.ErrForm
			text := ""
			if a >= 0xd800 && a <= 0xdbff && b >= 0xdc00 && b <= 0xdfff {
				want, text = api.OK, string(rune(0x10000+0x400*(a-0xd800)+b-0xdc00))
			} else if !(a >= 0xd800 && a <= 0xdfff || b >= 0xd800 && b <= 0xdfff) {
				want, text = api.OK, string([]rune{rune(a), rune(b)})
			}
			if e != want || place != 0 || e == api.OK && (len(l) != 1 || l[0] != Token{String, text, 0, 14}) {
				t.Errorf("%x %x: %+v, %d, %d", a, b, l, place, e)
			}
		}
	}
}

// TestTokens: P3.1, Tokens of texts of all sorts.
func TestTokens(t *testing.T) {
	for _, s := range texts() {
		sayIfWrong(t, s)
	}
}

// TestQuoteExamples: P3.2, the chapter's example, and what is like it.
func TestQuoteExamples(t *testing.T) {
	for _, c := range []struct {
		s, want string
		e       api.Errno
	}{
		{"a\n\x01\"", `"a\n\u0001\""`, api.OK},
		{"", `""`, api.OK},
		{"\b\t\n\f\r", `"\b\t\n\f\r"`, api.OK},
		{`a\b/c`, `"a\\b/c"`, api.OK},
		{"\x00\x0b\x1f\x1b", `"\u0000\u000b\u001f\u001b"`, api.OK},
		{" \x7f\u0080\u2028<&>", "\" \x7f\u0080\u2028<&>\"", api.OK},
		{"\u00e9\ufffd\U0001f600", "\"\u00e9\ufffd\U0001f600\"", api.OK},
		{"\xff", "", api.ErrUtf},
		{"a\xc3", "", api.ErrUtf},
		{"\ufffd\x80", "", api.ErrUtf},
		{"\xed\xa0\x80", "", api.ErrUtf},
	} {
		if s, e := Quote(c.s); s != c.want || e != c.e {
			t.Errorf("Quote(%q): %q, %d, not %q, %d", c.s, s, e, c.want, c.e)
		}
	}
}

// TestQuotePoints: P3.2 and P3.3, Quote of every code point, which Tokens tells again.
func TestQuotePoints(t *testing.T) {
	for n := rune(0); n <= 0x10ffff; n++ {
		if n >= 0xd800 && n <= 0xdfff {
			continue
		}
		point := string(n)
		s, e := Quote(point)
		if want := `"` + modelQuote(point) + `"`; s != want || e != api.OK {
			t.Fatalf("Quote of %x: %q, %d, not %q", n, s, e, want)
		}
		if l, _, e := Tokens(s); e != api.OK || len(l) != 1 || l[0] != (Token{String, point, 0, len(s)}) {
			t.Fatalf("Tokens(%q): %+v, %d", s, l, e)
		}
	}
}

// TestTokensOfQuote: P3.2 and P3.3, Tokens of Quote is one string of that Text; ErrUtf of what is not UTF-8.
func TestTokensOfQuote(t *testing.T) {
	for _, text := range texts() {
		s, e := Quote(text)
		if badAt(text) < len(text) {
			if s != "" || e != api.ErrUtf {
				t.Errorf("Quote(%q): %q, %d, not ErrUtf", text, s, e)
			}
			continue
		}
		l, place, e2 := Tokens(s)
		if e != api.OK || e2 != api.OK || place != 0 || len(l) != 1 || l[0] != (Token{String, text, 0, len(s)}) {
			t.Errorf("Tokens of Quote of %q: %+v, %d, %d", text, l, place, e2)
		}
	}
}

// TestTokensStandInOrder: P3.3, tokens do not overlap, and all that is none of them is blanks.
func TestTokensStandInOrder(t *testing.T) {
	for _, s := range slices.Concat(rows(), texts()) {
		l, _, e := Tokens(s)
		if e != api.OK {
			continue
		}
		at := 0
		for _, one := range append(l, Token{From: len(s), To: len(s)}) {
			if one.From < at || one.To < one.From || strings.Trim(s[at:one.From], " \t\n\r") != "" {
				t.Fatalf("Tokens(%q): %+v", s, l)
			}
			at = one.To
		}
	}
}

// spacedOut is a text of tokens with blanks more ahead of each and behind, and its tokens where they stand then.
func spacedOut(s string, l []Token, blanks string) (string, []Token) {
	var spaced string
	var moved []Token
	at := 0
	for _, one := range l {
		spaced += s[at:one.From] + blanks
		at = one.To
		by := len(spaced) - one.From
		spaced += s[one.From:one.To]
		one.From += by
		one.To += by
		moved = append(moved, one)
	}
	return spaced + s[at:] + blanks, moved
}

// TestMoreBlanks: P3.3, blanks more between two tokens, ahead or behind change nothing but places.
func TestMoreBlanks(t *testing.T) {
	held := 0
	for i, s := range rows() {
		l, _, e := Tokens(s)
		if e != api.OK { // two words side by side are none
			continue
		}
		held++
		for _, blanks := range []string{" ", "\t", "\n", "\r", "\r\n", strings.Repeat(" ", 1+i%5)} {
			spaced, want := spacedOut(s, l, blanks)
			if got, place, e := Tokens(spaced); !slices.Equal(got, want) || place != 0 || e != api.OK {
				t.Errorf("Tokens(%q): %+v, %d, %d, not %+v", spaced, got, place, e, want)
			}
		}
	}
	if held < 1000 {
		t.Errorf("%d texts of tokens are too few", held)
	}
}

// TestLongTexts: every call ends soon, of long texts, too.
func TestLongTexts(t *testing.T) {
	const many = api.MaxFrame
	for _, c := range []struct {
		s      string
		tokens int
		place  int
		e      api.Errno
	}{
		{strings.Repeat("[", many), many, 0, api.OK},
		{strings.Repeat(" ", many), 0, 0, api.OK},
		{strings.Repeat("0", many), many, 0, api.OK},
		{strings.Repeat("1", many), 1, 0, api.OK},
		{strings.Repeat("a", many), 0, 0, api.ErrForm},
		{strings.Repeat("1e", many), 0, 3, api.ErrForm}, // 1e1, and letters behind it,
		{"\"" + strings.Repeat(`\n`, many) + "\"", 1, 0, api.OK},
		{"\"" + strings.Repeat(`\ud83d\ude00`, many) + "\"", 1, 0, api.OK},
		{"\"" + strings.Repeat("a", many), 0, 0, api.ErrForm},
		{strings.Repeat(`""`, many) + "\xff", 0, 2 * many, api.ErrUtf},
	} {
		if l, place, e := Tokens(c.s); len(l) != c.tokens || place != c.place || e != c.e {
			t.Errorf("Tokens(%q ..): %d, %d, %d", c.s[:12], len(l), place, e)
		}
	}
	if s, e := Quote(strings.Repeat("\x01", many)); e != api.OK || len(s) != 6*many+2 {
		t.Errorf("Quote of a long text: %d bytes, %d", len(s), e)
	}
}
