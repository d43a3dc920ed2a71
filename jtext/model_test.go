package jtext

import (
	"encoding/json"
	"math/rand"
	"regexp"
	"strings"

	"emend/api"
)

// tail tells whether so many bytes of s from a place on are there, and all from 80 to bf.
func tail(s string, from, many int) bool {
	if from+many > len(s) {
		return false
	}
	for i := from; i < from+many; i++ {
		if s[i] < 0x80 || s[i] > 0xbf {
			return false
		}
	}
	return true
}

// longAt is how many bytes the code point has that stands in s from a place on, by the chapter's words; 0, if none does.
func longAt(s string, at int) int {
	switch c := s[at]; {
	case c < 0x80:
		return 1
	case c >= 0xc2 && c <= 0xdf && tail(s, at+1, 1):
		return 2
	case c >= 0xe0 && c <= 0xef && tail(s, at+1, 2):
		if c == 0xe0 && s[at+1] < 0xa0 || c == 0xed && s[at+1] > 0x9f {
			return 0
		}
		return 3
	case c >= 0xf0 && c <= 0xf4 && tail(s, at+1, 3):
		if c == 0xf0 && s[at+1] < 0x90 || c == 0xf4 && s[at+1] > 0x8f {
			return 0
		}
		return 4
	}
	return 0
}

// badAt is the first place from which on no code point's bytes stand; the length, if s is UTF-8.
func badAt(s string) int {
	at := 0
	for at < len(s) {
		long := longAt(s, at)
		if long == 0 {
			break
		}
		at += long
	}
	return at
}

// The tokens as patterns, the longest match of each being the token.
var (
	markForm   = longest(`^[{}\[\]:,]`)
	wordForm   = longest(`^[a-z]+`)
	numberForm = longest(`^-?(0|[1-9][0-9]*)(\.[0-9]+)?([eE][+-]?[0-9]+)?`)
	stringForm = longest(`^"(` + strings.Join([]string{
		`[^"\\\x00-\x1f]`,
		`\\["\\/bfnrt]`,
		`\\u[0-9a-cA-CefEF][0-9a-fA-F]{3}`,
		`\\u[dD][0-7][0-9a-fA-F]{2}`,
		`\\u[dD][89abAB][0-9a-fA-F]{2}\\u[dD][c-fC-F][0-9a-fA-F]{2}`,
	}, "|") + `)*"`)
)

func longest(form string) *regexp.Regexp {
	r := regexp.MustCompile(form)
	r.Longest()
	return r
}

// modelToken is the token that stands in s from a place on; its Kind is 0, if none does.
func modelToken(s string, at int) Token {
	rest := s[at:]
	if m := markForm.FindString(rest); m != "" {
		return Token{Mark, m, at, at + len(m)}
	}
	if m := wordForm.FindString(rest); m == "true" || m == "false" || m == "null" {
		return Token{Word, m, at, at + len(m)}
	}
	if m := numberForm.FindString(rest); m != "" {
		return Token{Number, m, at, at + len(m)}
	}
	if m := stringForm.FindString(rest); m != "" {
		var text string
		if err := json.Unmarshal([]byte(m), &text); err != nil {
			panic(err)
		}
		return Token{String, text, at, at + len(m)}
	}
	return Token{}
}

// modelTokens is what the chapter says Tokens is.
func modelTokens(s string) (l []Token, place int, e api.Errno) {
	if at := badAt(s); at < len(s) {
		return nil, at, api.ErrUtf
	}
	for at := 0; at < len(s); {
		if strings.Contains(" \t\n\r", s[at:at+1]) {
			at++
			continue
		}
		t := modelToken(s, at)
		if t.Kind == 0 {
			return nil, at, api.ErrForm
		}
		l = append(l, t)
		at = t.To
	}
	return l, 0, api.OK
}

// modelQuote is what the chapter says Quote is, of one byte below 80 or of a code point's bytes.
func modelQuote(point string) string {
	const short = "\b\t\n\f\r\"\\"
	if at := strings.Index(short, point); at >= 0 {
		return `\` + `btnfr"\`[at:at+1]
	}
	if point[0] < 32 {
		const hex = "0123456789abcdef"
		return `\u00` + string(hex[point[0]>>4]) + string(hex[point[0]&15])
	}
	return point
}

// snippets are tokens, pieces of them, blanks, code points and bytes that are none.
func snippets() []string {
	return []string{
		"{", "}", "[", "]", ":", ",", " ", "\t", "\n", "\r", "\v", "\f", "\x00", "\u00a0", "\ufeff",
		"true", "false", "null", "tru", "nul", "e", "E", "a", "z", "A", "u",
		"0", "1", "9", "-", "+", ".", "12", "-0", "1.5e3", "e5", "e+", "E-7",
		"\"", "\"\"", "\"a\"", "\\", "/", "'", `\"`, `\\`, `\/`, `\b`, `\f`, `\n`, `\r`, `\t`, `\u`, `\a`, `\0`, `\U`,
		`\u0000`, `\u00e9`, `\uABCD`, `\ud7ff`, `\ud800`, `\udbff`, `\udc00`, `\uDFFF`, `\ue000`, `\uffff`, `\ud83d\ude00`, `\ud83`, `\u00g0`, `\u+123`, `\u1_23`,
		"\x1f", "\x7f", "\u00e9", "\u20ac", "\ufffd", "\U0001f600", "\U0010ffff", "\u2028",
		"\x80", "\xff", "\xc3", "\xe2\x82", "\xed\xa0\x80", "\xc0\x80", "\xf4\x90\x80\x80",
	}
}

// valid are the snippets that are UTF-8.
func valid() []string {
	var l []string
	for _, s := range snippets() {
		if badAt(s) == len(s) {
			l = append(l, s)
		}
	}
	return l
}

// texts are all that two snippets make, by themselves and within a string, and some that more of them make.
func texts() []string {
	some, fine := snippets(), valid()
	var l []string
	for _, a := range some {
		for _, b := range some {
			l = append(l, a+b, "\""+a+b+"\"")
		}
	}
	r := rand.New(rand.NewSource(3))
	for range 20000 {
		from := some
		if r.Intn(4) > 0 { // else nearly none of the long ones would be UTF-8
			from = fine
		}
		var b strings.Builder
		for range r.Intn(9) {
			b.WriteString(from[r.Intn(len(from))])
		}
		l = append(l, b.String(), "\""+b.String()+"\"")
	}
	return l
}

// rows are texts that are tokens, with and without blanks around them.
func rows() []string {
	tokens := []string{"{", "}", "[", "]", ":", ",", "true", "false", "null", "0", "-0", "10", "1.5", "-2e5", "3E-07", `""`, `"a b"`, `"\u00e9\ud83d\ude00\n"`, "\"\u00e9\U0001f600\"", `"\""`, `"true"`}
	blanks := []string{"", "", "", " ", "\t", "\n", "\r", " \r\n\t "}
	r := rand.New(rand.NewSource(4))
	l := []string{"", " ", " \t\n\r"}
	for range 3000 {
		var b strings.Builder
		for range r.Intn(12) {
			b.WriteString(blanks[r.Intn(len(blanks))])
			b.WriteString(tokens[r.Intn(len(tokens))])
		}
		b.WriteString(blanks[r.Intn(len(blanks))])
		l = append(l, b.String())
	}
	return l
}
