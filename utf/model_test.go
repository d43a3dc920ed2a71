package utf

import (
	"math"
	"math/rand"
	"strings"
	"sync"
)

const (
	least = math.MinInt
	most  = math.MaxInt
)

// isPoint tells whether n is a point.
func isPoint(n int) bool {
	return n >= 0 && n <= 0x10ffff && !(n >= 0xd800 && n <= 0xdfff)
}

// bytesOf is what the chapter says a point's bytes are.
func bytesOf(n int) string {
	switch {
	case n <= 0x7f:
		return string([]byte{byte(n)})
	case n <= 0x7ff:
		return string([]byte{byte(0xc0 + n/64), byte(0x80 + n%64)})
	case n <= 0xffff:
		return string([]byte{byte(0xe0 + n/4096), byte(0x80 + n/64%64), byte(0x80 + n%64)})
	}
	return string([]byte{byte(0xf0 + n/(1<<18)), byte(0x80 + n/4096%64), byte(0x80 + n/64%64), byte(0x80 + n%64)})
}

// allPoints are the points by their bytes.
var allPoints = sync.OnceValue(func() map[string]int {
	points := make(map[string]int, 0x110000)
	for n := range 0x110000 {
		if isPoint(n) {
			points[bytesOf(n)] = n
		}
	}
	return points
})

// piece is a piece of a text: its bytes from and to, its point or -1, and its units.
type piece struct{ from, to, point, units int }

// pieceAt is the piece that begins at a place where a byte stands.
func pieceAt(s string, at int) piece {
	for to := at + 1; to <= len(s) && to <= at+4; to++ {
		if n, ok := allPoints()[s[at:to]]; ok {
			p := piece{at, to, n, 1}
			if n > 0xffff {
				p.units = 2
			}
			return p
		}
	}
	return piece{at, at + 1, -1, 1}
}

// pieces are those of a text, from its beginning on.
func pieces(s string) []piece {
	var all []piece
	for at := 0; at < len(s); at = all[len(all)-1].to {
		all = append(all, pieceAt(s, at))
	}
	return all
}

// validOf is what the chapter says Valid is.
func validOf(all []piece) bool {
	for _, p := range all {
		if p.point < 0 {
			return false
		}
	}
	return true
}

// unitsTo is what the chapter says UnitsAt is; Units is that of a place behind the end.
func unitsTo(all []piece, at int) int {
	n := 0
	for _, p := range all {
		if p.to <= at {
			n += p.units
		}
	}
	return n
}

// byteOf is what the chapter says Byte is.
func byteOf(s string, all []piece, units int) int {
	switch {
	case units < 0:
		return 0
	case units >= unitsTo(all, most):
		return len(s)
	}
	for _, p := range all {
		if unitsTo(all, p.from) == units {
			return p.from
		}
	}
	for _, p := range all {
		if ahead := unitsTo(all, p.from); ahead < units && units < ahead+p.units {
			return p.from
		}
	}
	return -1
}

// snippets are points of all lengths with their edges, and bytes that are no point's.
func snippets() []string {
	return []string{
		"", "a", "\x00", "\n", "\x7f", "\xc2\x80", "\xc3\xa9", "\xdf\xbf", "\xe0\xa0\x80", "\xe2\x82\xac",
		"\xed\x9f\xbf", "\xee\x80\x80", "\xef\xbf\xbd", "\xef\xbf\xbf", "\xf0\x90\x80\x80", "\xf0\x9f\x98\x80", "\xf4\x8f\xbf\xbf",
		"\x80", "\xff", "\xc3", "\xe2\x82", "\xf0\x9f", "\xf0\x9f\x98", "\xc0\x80", "\xe0\x80\x80", "\xf0\x80\x80\x80",
		"\xed\xa0\x80", "\xed\xbf\xbf", "\xf4\x90\x80\x80", "\xf8\x88\x80\x80\x80",
	}
}

// texts are all that two snippets make, some that more of them make, and some of any bytes.
func texts() []string {
	some := snippets()
	var all []string
	for _, a := range some {
		for _, b := range some {
			all = append(all, a+b)
		}
	}
	r := rand.New(rand.NewSource(5))
	for range 1000 {
		var b strings.Builder
		for range r.Intn(9) {
			b.WriteString(some[r.Intn(len(some))])
		}
		all = append(all, b.String())
		loose := make([]byte, r.Intn(12))
		for i := range loose {
			loose[i] = byte(r.Intn(256))
		}
		all = append(all, string(loose))
	}
	return all
}
