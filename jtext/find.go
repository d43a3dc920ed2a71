package jtext

import "unicode/utf8"

// finder finds tokens of one kind: what one that stands in s from a place on tells, and where it ends.
// If none stands there, it ends where it would begin.
type finder struct {
	kind int
	find func(s string, at int) (text string, to int)
}

// finders are those of all kinds. No two of them find a token at the same place, so their order is of no weight.
func finders() []finder {
	return []finder{{Mark, findMark}, {Word, findWord}, {Number, findNumber}, {String, findString}}
}

// findMark finds a mark.
func findMark(s string, at int) (text string, to int) {
	if !stands(s, at, "{}[]:,") {
		return "", at
	}
	return s[at : at+1], at + 1
}

// findWord finds a word. All the letters make it: none is looked for within them.
func findWord(s string, at int) (text string, to int) {
	end := at
	for end < len(s) && s[end] >= 'a' && s[end] <= 'z' {
		end++
	}
	switch s[at:end] {
	case "true", "false", "null":
		return s[at:end], end
	}
	return "", at
}

// findNumber finds a number.
func findNumber(s string, at int) (text string, to int) {
	whole := at
	if stands(s, at, "-") {
		whole++
	}
	end := pastWhole(s, whole)
	if end == whole {
		return "", at
	}
	end = pastExponent(s, pastFraction(s, end))
	return s[at:end], end
}

// pastWhole tells where the digits end with which a number begins: right there, if there are none.
func pastWhole(s string, at int) int {
	if stands(s, at, "0") { // no digit behind it is of the same number
		return at + 1
	}
	return pastDigits(s, at)
}

// pastFraction tells where a point and digits end: right there, if not both stand there.
func pastFraction(s string, at int) int {
	if !stands(s, at, ".") {
		return at
	}
	end := pastDigits(s, at+1)
	if end == at+1 {
		return at
	}
	return end
}

// pastExponent tells where an exponent ends: right there, if it has no digits or is none.
func pastExponent(s string, at int) int {
	if !stands(s, at, "eE") {
		return at
	}
	digits := at + 1
	if stands(s, digits, "+-") {
		digits++
	}
	end := pastDigits(s, digits)
	if end == digits {
		return at
	}
	return end
}

// pastDigits tells where the digits end that stand in s from a place on.
func pastDigits(s string, at int) int {
	for stands(s, at, "0123456789") {
		at++
	}
	return at
}

// findString finds a string.
func findString(s string, at int) (text string, to int) {
	if !stands(s, at, `"`) {
		return "", at
	}
	var told []byte
	for next := at + 1; next < len(s); {
		if s[next] == quotationMark {
			return string(told), next + 1
		}
		point, end := pointWithin(s, next)
		if end == next {
			break
		}
		told = utf8.AppendRune(told, point)
		next = end
	}
	return "", at
}

// pointWithin is the code point that stands in s from a place within a string on, as it is or as an escape,
// and where it ends: right there, if none may stand there so.
func pointWithin(s string, at int) (point rune, to int) {
	if s[at] == backslash {
		return escapeAt(s, at)
	}
	point, long := utf8.DecodeRuneInString(s[at:])
	if point < firstUnescaped {
		return 0, at
	}
	return point, at + long
}
