package lexer

import "strings"

const (
	quotationMark = '"'
	backslash     = '\\'
	firstPlain    = 32  // the first byte that may stand in a string as it is
	del           = 127 // the only one from there on that may not, and is neither of those above
)

// hexDigits are those of an escape, in order.
const hexDigits = "0123456789abcdef"

// unquoted is the value of the string that stands in a text from a place on, and where it ends.
// If none stands there, it ends where it would begin.
func unquoted(text string, at int) (value []byte, to int) {
	if !stands(text, at, `"`) {
		return nil, at
	}
	for next := at + 1; next < len(text); {
		if text[next] == quotationMark {
			return value, next + 1
		}
		c, end := pieceAt(text, next)
		if end == next {
			break
		}
		value = append(value, c)
		next = end
	}
	return nil, at
}

// pieceAt is the byte for which a string's byte, or its escape, stands in a text from a place on, and where that ends.
// If none may stand there, it ends where it would begin.
func pieceAt(text string, at int) (c byte, to int) {
	switch c := text[at]; {
	case c == backslash:
		return escapeAt(text, at)
	case c < firstPlain || c == del:
		return 0, at
	default:
		return c, at + 1
	}
}

// escapeAt is what pieceAt is where a backslash stands.
func escapeAt(text string, at int) (c byte, to int) {
	if at+1 == len(text) {
		return 0, at
	}
	switch c := text[at+1]; c {
	case 'n':
		return '\n', at + 2
	case 't':
		return '\t', at + 2
	case backslash, quotationMark:
		return c, at + 2
	case 'x':
		return hexAt(text, at)
	}
	return 0, at
}

// hexAt is what pieceAt is where a backslash and an x stand.
func hexAt(text string, at int) (c byte, to int) {
	const long = len(`\x41`)
	if len(text)-at < long {
		return 0, at
	}
	high := strings.IndexByte(hexDigits, text[at+2])
	low := strings.IndexByte(hexDigits, text[at+3])
	if high < 0 || low < 0 {
		return 0, at
	}
	return byte(high<<4 | low), at + long
}
