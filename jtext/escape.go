package jtext

import (
	"strconv"
	"unicode/utf8"
)

const (
	quotationMark = '"'
	backslash     = '\\'
)

// firstUnescaped is the first code point that may stand in a string as it is.
const firstUnescaped = 32

// unitBytes is how many bytes a backslash, a u and four hex digits are.
const unitBytes = 6

// Surrogates are no code points: one of the high ones and one of the low ones make one from beyond on.
const (
	firstHigh = 0xd800
	firstLow  = 0xdc00
	lastLow   = 0xdfff
	beyond    = 0x10000
)

// escapeAt is the code point of the escape whose backslash stands in s at a place, and where it ends:
// right there, if it is none.
func escapeAt(s string, at int) (point rune, to int) {
	unit, ok := unitAt(s, at)
	switch {
	case !ok:
		return shortEscapeAt(s, at)
	case unit >= firstLow && unit <= lastLow:
		return 0, at
	case unit < firstHigh || unit > lastLow:
		return unit, at + unitBytes
	}
	low, ok := unitAt(s, at+unitBytes)
	if !ok || low < firstLow || low > lastLow {
		return 0, at
	}
	return beyond + (unit-firstHigh)*0x400 + (low - firstLow), at + 2*unitBytes
}

// unitAt is the number of a backslash, a u and four hex digits that stand in s from a place on, and whether they do.
func unitAt(s string, at int) (unit rune, ok bool) {
	if len(s)-at < unitBytes || s[at] != backslash || s[at+1] != 'u' {
		return 0, false
	}
	n, err := strconv.ParseUint(s[at+2:at+unitBytes], 16, 16)
	return rune(n), err == nil
}

// shortEscapeAt is what escapeAt is of an escape without hex digits.
func shortEscapeAt(s string, at int) (point rune, to int) {
	known := map[rune]rune{
		'"': '"', '\\': '\\', '/': '/', 'b': 8, 'f': 12, 'n': 10, 'r': 13, 't': 9,
	}
	letter, long := utf8.DecodeRuneInString(s[at+1:])
	point, ok := known[letter]
	if !ok {
		return 0, at
	}
	return point, at + 1 + long
}

// appendQuoted puts a code point behind a string's bytes, as an escape, if it may not stand there as it is.
func appendQuoted(quoted []byte, point rune) []byte {
	if point >= firstUnescaped && point != quotationMark && point != backslash {
		return utf8.AppendRune(quoted, point)
	}
	letters := map[rune]rune{
		'"': '"', '\\': '\\', 8: 'b', 9: 't', 10: 'n', 12: 'f', 13: 'r',
	}
	if letter, ok := letters[point]; ok {
		return utf8.AppendRune(append(quoted, backslash), letter)
	}
	const digits = "0123456789abcdef"
	return append(append(quoted, `\u00`...), digits[point/16], digits[point%16])
}
