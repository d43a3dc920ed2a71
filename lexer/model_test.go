package lexer

import (
	"math/big"
	"math/rand"
	"regexp"
	"slices"
	"strconv"
	"strings"
	"unicode/utf8"

	"emend/api"
)

// The chapter's words, as they are listed there.
var (
	reservedWords = strings.Fields("break continue else false float64 for func if import int bool string len package panic print return struct true type var")
	endingWords   = strings.Fields("true false return break continue int bool string float64")
	allMarks      = strings.Fields("+ - * / % == != < <= > >= && || ! := = ( ) { } , . :")
)

// The tokens' forms.
var (
	wordForm   = regexp.MustCompile(`^[A-Za-z_][A-Za-z_0-9]*`)
	intForm    = regexp.MustCompile(`^[0-9]+`)
	floatForm  = regexp.MustCompile(`^[0-9]+\.[0-9]+(e[+-]?[0-9]+)?`)
	stringForm = regexp.MustCompile(`^"([^\x00-\x1f\x7f"\\]|\\[nt\\"]|\\x[0-9a-f][0-9a-f])*"`)
	wholeOnly  = regexp.MustCompile(`^(0|[1-9][0-9]*)$`)
	floatOnly  = regexp.MustCompile(`^(0|[1-9][0-9]*)\.[0-9]+(e[+-]?[0-9]{1,3})?$`)
	escapes    = regexp.MustCompile(`\\([nt\\"]|x[0-9a-f][0-9a-f])`)
)

// modelAt is the token that a line has from a place on, its places counted from the line's beginning; of no kind, if none.
func modelAt(line string, at int) Token {
	rest := line[at:]
	token := func(kind int, text string) Token { return Token{kind, text, at, at + len(text)} }
	if word := wordForm.FindString(rest); word != "" {
		if slices.Contains(reservedWords, word) {
			return token(KWord, word)
		}
		return token(KName, word)
	}
	if float := floatForm.FindString(rest); float != "" {
		return token(KFloat, float)
	}
	if whole := intForm.FindString(rest); whole != "" {
		return token(KInt, whole)
	}
	if s := stringForm.FindString(rest); s != "" {
		return token(KString, s)
	}
	if strings.HasPrefix(rest, ";") {
		return token(KSemi, ";")
	}
	best := Token{}
	for _, mark := range allMarks {
		if strings.HasPrefix(rest, mark) && len(mark) > len(best.Text) {
			best = token(KMark, mark)
		}
	}
	return best
}

// modelValue is what a string's text tells.
func modelValue(literal string) string {
	known := map[string]string{"n": "\n", "t": "\t", `\`: `\`, `"`: `"`}
	return escapes.ReplaceAllStringFunc(literal[1:len(literal)-1], func(escape string) string {
		if c, ok := known[escape[1:]]; ok {
			return c
		}
		n, _ := strconv.ParseUint(escape[2:], 16, 8)
		return string([]byte{byte(n)})
	})
}

// modelFault is what is wrong with a token.
func modelFault(t Token) api.Errno {
	switch t.Kind {
	case KName:
		if len(t.Text) > 40 {
			return api.ErrLong
		}
		if t.Text == "_" {
			return api.ErrName
		}
	case KInt:
		if !wholeOnly.MatchString(t.Text) {
			return api.ErrForm
		}
		if n, _ := new(big.Int).SetString(t.Text, 10); !n.IsInt64() {
			return api.ErrLong
		}
	case KFloat:
		if len(t.Text) > 60 {
			return api.ErrLong
		}
		if !floatOnly.MatchString(t.Text) {
			return api.ErrForm
		}
		if _, err := strconv.ParseFloat(t.Text, 64); err != nil {
			return api.ErrLong
		}
	case KString:
		if len(modelValue(t.Text)) > 4096 {
			return api.ErrLong
		}
	}
	return api.OK
}

// modelEnds tells whether a semicolon is put in behind a line's last token.
func modelEnds(t Token) bool {
	switch t.Kind {
	case KName, KInt, KFloat, KString:
		return true
	case KWord:
		return slices.Contains(endingWords, t.Text)
	}
	return t.Text == ")" || t.Text == "}"
}

// modelLine is the tokens of one line, or the place of its first fault and the error.
func modelLine(line string) (l []Token, place int, e api.Errno) {
	for at := 0; at < len(line); {
		if strings.HasPrefix(line[at:], "//") {
			break
		}
		if strings.Contains(" \t\r", line[at:at+1]) {
			at++
			continue
		}
		t := modelAt(line, at)
		if t.Kind == 0 {
			return nil, at, api.ErrForm
		}
		if e := modelFault(t); e != api.OK {
			return nil, at, e
		}
		l = append(l, t)
		at = t.To
	}
	if n := len(l); n > 0 && modelEnds(l[n-1]) {
		l = append(l, Token{KSemi, "", l[n-1].To, l[n-1].To})
	}
	return l, 0, api.OK
}

// modelTokens is what Tokens tells, by the chapter's words: no token has a byte 10, so line by line.
func modelTokens(text string) (l []Token, place int, e api.Errno) {
	if len(text) > 65536 {
		return nil, 65536, api.ErrLong
	}
	for at := 0; at < len(text); {
		point, long := utf8.DecodeRuneInString(text[at:])
		if point == utf8.RuneError && long == 1 {
			return nil, at, api.ErrUtf
		}
		at += long
	}
	from := 0
	for _, line := range strings.Split(text, "\n") {
		ofLine, place, e := modelLine(line)
		if e != api.OK {
			return nil, from + place, e
		}
		for _, t := range ofLine {
			t.From += from
			t.To += from
			l = append(l, t)
		}
		from += len(line) + 1
	}
	return l, 0, api.OK
}

// modelName tells whether a text is a name.
func modelName(s string) bool {
	return len(s) <= 40 && wordForm.FindString(s) == s && s != "" && s != "_" && !slices.Contains(reservedWords, s)
}

// scraps are what texts that are tried are made of.
var scraps = slices.Concat(reservedWords, allMarks, []string{
	";", "\n", "\n", " ", "\t", "\r", "//", "// c\n", "/", "&", "|", "#", "_", "__", "a", "e", "x", "E", "Zz9", "e5",
	"0", "7", "07", "1.5", "1.5e3", "1.", ".5", "1e5", "1.5e", "1.5e+", "2.0e-007", "9.9e999", "9223372036854775807",
	"9223372036854775808", `"`, `"a"`, `"\n\t\\\""`, `"\x0a\xff"`, `"\q"`, `"\xA0"`, `\`, "\"é😀\"", "é", "\x7f", "\x00",
	"\xff", "\xed\xa0\x80", "\ufffd", "\u2028", "\v", "\f", strings.Repeat("n", 40), strings.Repeat("n", 41),
})

// randomText is some of the scraps, one behind the other.
func randomText(r *rand.Rand, most int, from []string) string {
	var b strings.Builder
	for n := r.Intn(most + 1); n > 0; n-- {
		b.WriteString(from[r.Intn(len(from))])
		if r.Intn(2) == 0 {
			b.WriteByte(' ')
		}
	}
	return b.String()
}

// goodScraps are those that alone are no error.
func goodScraps() []string {
	return slices.DeleteFunc(slices.Clone(scraps), func(s string) bool {
		_, _, e := modelTokens(s)
		return e != api.OK
	})
}
