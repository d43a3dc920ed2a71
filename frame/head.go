package frame

import (
	"bytes"
	"slices"
	"strconv"
	"strings"

	"emend/api"
)

const (
	lineEnd = "\r\n"
	headEnd = lineEnd + lineEnd // the last line's end, and what stands behind the lines
)

// maxHead is how many bytes a head may have, what ends it being of them.
const maxHead = 1024

// maxDigits is how many digits a body's length may have. Each such number is one of 64 bits.
const maxDigits = 18

// The names of lines, as they are told.
const (
	lengthName = "content-length"
	typeName   = "content-type"
)

// noLength is a body's length as long as no line told it.
const noLength = -1

// line is one that may stand in a head, once: its name, and what tells its value, and whether that may be.
type line struct {
	name string
	tell func(value string) bool
}

// bodyIn tells where the body stands of the frame with which a stream begins, if all of it has come in.
// Until the head has come in both places are 0.
func bodyIn(stream []byte) (from, to int, e api.Errno) {
	first := stream[:min(len(stream), maxHead)]
	lines, _, ended := bytes.Cut(first, []byte(headEnd))
	if !ended && len(first) < maxHead {
		return 0, 0, api.OK
	}
	long := lengthIn(string(lines))
	switch {
	case !ended || long == noLength:
		return 0, 0, api.ErrForm
	case long > api.MaxFrame:
		return 0, 0, api.ErrLong
	}
	from = len(lines) + len(headEnd)
	return from, from + int(long), api.OK
}

// lengthIn is the body's length that the lines of a head tell; noLength, if they are none of a head.
func lengthIn(lines string) int64 {
	long := int64(noLength)
	known := []line{
		{lengthName, func(value string) (ok bool) {
			long, ok = lengthOf(value)
			return ok
		}},
		{typeName, isPrintable},
	}
	if !tellAll(lines, known) {
		return noLength
	}
	return long
}

// tellAll has each of the lines told by the known one of its name, which is known no more, and tells whether all may be.
func tellAll(lines string, known []line) bool {
	for text := range strings.SplitSeq(lines, lineEnd) {
		name, value, ok := strings.Cut(text, ":")
		// This holds letters of all of Unicode to be as good as one another, but none beyond A to Z is as good as one of these names'.
		at := slices.IndexFunc(known, func(l line) bool { return strings.EqualFold(name, l.name) })
		if !ok || at < 0 || !known[at].tell(value) {
			return false
		}
		known = slices.Delete(known, at, at+1)
	}
	return true
}

// lengthOf is the number that blanks and digits are, and whether they are one.
func lengthOf(value string) (long int64, ok bool) {
	digits := strings.TrimLeft(value, " ")
	if len(digits) > maxDigits || strings.TrimLeft(digits, "0123456789") != "" {
		return 0, false
	}
	long, err := strconv.ParseInt(digits, 10, 64)
	return long, err == nil // an error is that there are no digits
}

// isPrintable tells whether each byte of a value is a blank, or a mark of ASCII.
func isPrintable(value string) bool {
	for _, c := range []byte(value) {
		if c < ' ' || c > '~' {
			return false
		}
	}
	return true
}
