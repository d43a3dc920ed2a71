package lexer

import "strings"

// marks are all of them; where a longer one stands, none of the shorter ones is looked for.
var marks = [...]string{
	"+", "-", "*", "/", "%", "==", "!=", "<", "<=", ">", ">=", "&&", "||",
	"!", ":=", "=", "(", ")", "{", "}", ",", ".", ":",
}

// longestMark is how many bytes the longest of the marks has.
const longestMark = 2

// pastGap tells where the blanks, lines' ends and comments end that stand in a text from a place on.
// ended is told of each line that ends there, the text's last one, which its end ends, too.
func pastGap(text string, at int, ended func()) int {
	for ; at < len(text); at++ {
		switch {
		case text[at] == '\n':
			ended()
		case strings.HasPrefix(text[at:], "//"):
			at = pastComment(text, at) - 1
		case strings.IndexByte(" \t\r", text[at]) < 0:
			return at
		}
	}
	ended()
	return at
}

// pastComment tells where the comment ends that stands in a text from a place on: ahead of its line's end.
func pastComment(text string, at int) int {
	if long := strings.IndexByte(text[at:], '\n'); long >= 0 {
		return at + long
	}
	return len(text)
}

// find tells of which kind the token is that stands in a text from a place on, and where it ends.
// If none stands there, it ends where it would begin.
func find(text string, at int) (kind, to int) {
	switch c := text[at]; {
	case isLetter(c):
		return findWord(text, at)
	case isDigit(c):
		return findNumber(text, at)
	case c == quotationMark:
		_, to = unquoted(text, at)
		return KString, to
	case c == ';':
		return KSemi, at + 1
	}
	return KMark, pastMark(text, at)
}

// findWord is what find is where a letter stands.
func findWord(text string, at int) (kind, to int) {
	to = pastWord(text, at)
	if Reserved(text[at:to]) {
		return KWord, to
	}
	return KName, to
}

// findNumber is what find is where a digit stands.
func findNumber(text string, at int) (kind, to int) {
	whole := pastDigits(text, at)
	if !stands(text, whole, ".") {
		return KInt, whole
	}
	part := pastDigits(text, whole+1)
	if part == whole+1 {
		return KInt, whole
	}
	return KFloat, pastExponent(text, part)
}

// pastExponent tells where a float's exponent ends, if one stands in a text from a place on: right there, if none does.
func pastExponent(text string, at int) int {
	if !stands(text, at, "e") {
		return at
	}
	from := at + 1
	if stands(text, from, "+-") {
		from++
	}
	if to := pastDigits(text, from); to > from {
		return to
	}
	return at
}

// pastMark tells where the longest mark ends that stands in a text from a place on: right there, if none does.
func pastMark(text string, at int) int {
	to := at
search:
	for long := longestMark; long > 0; long-- {
		for _, mark := range marks {
			if len(mark) == long && strings.HasPrefix(text[at:], mark) {
				to += long
				break search
			}
		}
	}
	return to
}

// pastWord tells where the letters and digits end that stand in a text from a place on.
func pastWord(text string, at int) int {
	for at < len(text) && (isLetter(text[at]) || isDigit(text[at])) {
		at++
	}
	return at
}

// pastDigits tells where the digits end that stand in a text from a place on.
func pastDigits(text string, at int) int {
	for at < len(text) && isDigit(text[at]) {
		at++
	}
	return at
}

// stands tells whether one of some bytes stands in a text at a place.
func stands(text string, at int, some string) bool {
	return at < len(text) && strings.IndexByte(some, text[at]) >= 0
}
