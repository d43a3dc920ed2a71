package lines

import (
	"math"
	"math/rand"
	"strings"

	"emend/api"
	"emend/utf"
)

const (
	least = math.MinInt
	most  = math.MaxInt
)

// row is a line of the model: its bytes from and to, and where its line's end ends (to, if it is the last line).
type row struct{ from, to, end int }

// endLong is how many bytes the line's end has that begins at a place; 0, if none begins there.
func endLong(s string, at int) int {
	switch {
	case s[at] == 10:
		return 1
	case s[at] == 13 && at+1 < len(s) && s[at+1] == 10:
		return 2
	case s[at] == 13:
		return 1
	}
	return 0
}

// rows are the lines as the chapter has them: byte by byte, from the text's beginning on.
func rows(s string) []row {
	var all []row
	from := 0
	for at := 0; at < len(s); {
		n := endLong(s, at)
		if n == 0 {
			at++
			continue
		}
		all = append(all, row{from, at, at + n})
		at += n
		from = at
	}
	return append(all, row{from, len(s), len(s)})
}

// offset is the place of a Pos in the model.
func offset(s string, p api.Pos) (int, api.Errno) {
	if p.Line < 0 || p.Char < 0 {
		return 0, api.ErrArg
	}
	all := rows(s)
	if p.Line >= len(all) {
		return len(s), api.OK
	}
	r := all[p.Line]
	return r.from + utf.Byte(s[r.from:r.to], p.Char), api.OK
}

// cut is what Cut tells in the model.
func cut(s string, r api.Range) (int, int, api.Errno) {
	from, e1 := offset(s, r.From)
	to, e2 := offset(s, r.To)
	if e1 != api.OK || e2 != api.OK || to < from {
		return 0, 0, api.ErrArg
	}
	return from, to, api.OK
}

// at is the Pos of a place in the model: the last of all lines that do not begin behind it is looked for from the end on.
func at(s string, place int) api.Pos {
	if place < 0 {
		place = 0
	}
	if place > len(s) {
		place = len(s)
	}
	all := rows(s)
	n := len(all) - 1
	for all[n].from > place {
		n--
	}
	r := all[n]
	return api.Pos{Line: n, Char: utf.UnitsAt(s[r.from:r.to], place-r.from)}
}

// snippets are ends of lines, points of all lengths, and bytes that are no point's.
func snippets() []string {
	return []string{
		"\n", "\r", "\r\n", "\n\r", "\r\r\n", "a", "b", "\x00", "\x0b", "\x0c", "\x85", "\u0085", "\u2028", "\u2029",
		"\u00e9", "\u20ac", "\U0001f600", "\U0010ffff", "\ufffd", "\xf0\x9f", "\xf0\x9f\x98", "\xe2\x82", "\xc3", "\x80", "\xff", "\x8a", "\x8d",
	}
}

// some is a text of a few snippets.
func some(rnd *rand.Rand) string {
	all := snippets()
	var b strings.Builder
	for range rnd.Intn(12) {
		b.WriteString(all[rnd.Intn(len(all))])
	}
	return b.String()
}

// shortTexts are all texts of up to so many of these bytes.
func shortTexts(bytes string, long int) []string {
	all := []string{""}
	for from := 0; long > 0; long-- {
		to := len(all)
		for _, s := range all[from:to] {
			for i := range len(bytes) {
				all = append(all, s+bytes[i:i+1])
			}
		}
		from = to
	}
	return all
}
