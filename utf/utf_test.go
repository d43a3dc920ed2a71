package utf

import (
	"slices"
	"strings"
	"testing"

	"emend/api"
)

const example = "\x61\xf0\x9f\x98\x80\xc3\xa9"

// sayIfWrongDecode holds Decode of a place against the model.
func sayIfWrongDecode(t *testing.T, s string, at int) {
	t.Helper()
	want, wantLong := -1, 0
	if at >= 0 && at < len(s) {
		p := pieceAt(s, at)
		want, wantLong = p.point, p.to-p.from
	}
	if point, long := Decode(s, at); point != want || long != wantLong {
		t.Errorf("Decode(% x, %d): %x, %d, not %x, %d", s, at, point, long, want, wantLong)
	}
}

// TestDecodeExamples: P2.1, the chapter's examples of Decode, and edges.
func TestDecodeExamples(t *testing.T) {
	for _, c := range []struct {
		s               string
		at, point, long int
	}{
		{"\x61", 0, 0x61, 1},
		{"\xc3\xa9", 0, 0xe9, 2},
		{"\xf0\x9f\x98\x80", 0, 0x1f600, 4},
		{"\xc3", 0, -1, 1},
		{"\x80", 0, -1, 1},
		{"\xc0\x80", 0, -1, 1},
		{"\xed\xa0\x80", 0, -1, 1},
		{"\x61", 1, -1, 0},
		{"\x61", -1, -1, 0},
		{"", 0, -1, 0},
		{"\x00", 0, 0, 1},
		{"\xef\xbf\xbd", 0, 0xfffd, 3},
		{"\xef\xbf\xbd", 1, -1, 1},
		{"\xf4\x8f\xbf\xbf", 0, 0x10ffff, 4},
		{"\xf4\x90\x80\x80", 0, -1, 1},
		{"\xf8\x88\x80\x80\x80", 0, -1, 1},
		{example, 1, 0x1f600, 4},
		{example, 2, -1, 1},
		{example, 5, 0xe9, 2},
		{example, 7, -1, 0},
		{example, most, -1, 0},
		{example, least, -1, 0},
	} {
		if point, long := Decode(c.s, c.at); point != c.point || long != c.long {
			t.Errorf("Decode(% x, %d): %x, %d, not %x, %d", c.s, c.at, point, long, c.point, c.long)
		}
	}
}

// TestDecodeBytes: P2.1, Decode of all one or two bytes, and of three and four at the edges of what bytes may stand where.
func TestDecodeBytes(t *testing.T) {
	for a := range 256 {
		sayIfWrongDecode(t, string([]byte{byte(a)}), 0)
		for b := range 256 {
			sayIfWrongDecode(t, string([]byte{byte(a), byte(b)}), 0)
		}
	}
	edges := []byte{0x00, 0x41, 0x7f, 0x80, 0x8f, 0x90, 0x9f, 0xa0, 0xbf, 0xc0, 0xc1, 0xc2, 0xdf, 0xe0, 0xe1, 0xec, 0xed, 0xee, 0xef, 0xf0, 0xf1, 0xf3, 0xf4, 0xf5, 0xf8, 0xff}
	for _, a := range edges {
		for _, b := range edges {
			for _, c := range edges {
				sayIfWrongDecode(t, string([]byte{a, b, c}), 0)
				for _, d := range edges {
					sayIfWrongDecode(t, string([]byte{a, b, c, d}), 0)
				}
			}
		}
	}
}

// TestDecodePlaces: P2.1, Decode of each place of a text, those amid a point's bytes and beside the text among them.
func TestDecodePlaces(t *testing.T) {
	for _, s := range texts() {
		for at := -2; at <= len(s)+2; at++ {
			sayIfWrongDecode(t, s, at)
		}
	}
}

// TestEncodeExamples: P2.1, the chapter's examples of Encode, and edges.
func TestEncodeExamples(t *testing.T) {
	for _, c := range []struct {
		point int
		want  string
		e     api.Errno
	}{
		{0x20ac, "\xe2\x82\xac", api.OK},
		{0xd800, "", api.ErrUtf},
		{0x110000, "", api.ErrUtf},
		{-1, "", api.ErrUtf},
		{0, "\x00", api.OK},
		{0x7f, "\x7f", api.OK},
		{0x80, "\xc2\x80", api.OK},
		{0x7ff, "\xdf\xbf", api.OK},
		{0x800, "\xe0\xa0\x80", api.OK},
		{0xd7ff, "\xed\x9f\xbf", api.OK},
		{0xdfff, "", api.ErrUtf},
		{0xe000, "\xee\x80\x80", api.OK},
		{0xfffd, "\xef\xbf\xbd", api.OK},
		{0xffff, "\xef\xbf\xbf", api.OK},
		{0x10000, "\xf0\x90\x80\x80", api.OK},
		{0x10ffff, "\xf4\x8f\xbf\xbf", api.OK},
		{1 << 31, "", api.ErrUtf},
		{1<<32 + 0x61, "", api.ErrUtf}, // would be a point, cut to 32 bits
		{-1<<32 + 0x61, "", api.ErrUtf},
		{most, "", api.ErrUtf},
		{least, "", api.ErrUtf},
	} {
		if s, e := Encode(c.point); s != c.want || e != c.e {
			t.Errorf("Encode(%x): % x, %d, not % x, %d", c.point, s, e, c.want, c.e)
		}
	}
}

// TestAllPoints: P2.1 and P2.3: Encode of every point, and of what is none around them; Decode tells it again, whatever follows.
func TestAllPoints(t *testing.T) {
	for n := -0x1000; n < 0x120000; n++ {
		s, e := Encode(n)
		if !isPoint(n) {
			if s != "" || e != api.ErrUtf {
				t.Fatalf("Encode(%x): % x, %d, not ErrUtf", n, s, e)
			}
			continue
		}
		if s != bytesOf(n) || e != api.OK {
			t.Fatalf("Encode(%x): % x, %d", n, s, e)
		}
		for _, behind := range []string{"", "\x80", "a"} {
			if point, long := Decode(s+behind, 0); point != n || long != len(s) {
				t.Fatalf("Decode(% x, 0): %x, %d, not %x, %d", s+behind, point, long, n, len(s))
			}
		}
		if !Valid(s) {
			t.Fatalf("Valid(% x) is not", s)
		}
	}
}

// TestNoTwoPointsShareBytes: P2.3: no point's bytes are another's, or begin them.
func TestNoTwoPointsShareBytes(t *testing.T) {
	var all []string
	for n := range 0x110000 {
		if s, e := Encode(n); e == api.OK {
			all = append(all, s)
		}
	}
	if want := 0x110000 - 0x800; len(all) != want {
		t.Fatalf("%d points, not %d", len(all), want)
	}
	slices.Sort(all)
	for i, s := range all[1:] { // what begins another one is sorted right ahead of one that it begins
		if strings.HasPrefix(s, all[i]) {
			t.Fatalf("% x begins % x", all[i], s)
		}
	}
}

// TestValid: P2.1, Valid.
func TestValid(t *testing.T) {
	for s, want := range map[string]bool{
		"": true, "a": true, "\x00": true, example: true,
		"\xef\xbf\xbd": true, "\xef\xbf\xbd\xef\xbf\xbd": true, // fffd, a point like others
		"\xed\x9f\xbf\xee\x80\x80": true, "\xf4\x8f\xbf\xbf": true,
		"\xff\xfe": false, "\x80": false, "\xc3": false, "a\xc3": false, "\xc3a": false, "\xc0\x80": false,
		"\xed\xa0\x80": false, "\xed\xa0\xbd\xed\xb8\x80": false, "\xf4\x90\x80\x80": false,
		"\xf0\x9f\x98": false, "\xef\xbf\xbd\xff": false, "\xef\xbf": false, "\xef\xbb\xbf": true,
	} {
		if Valid(s) != want {
			t.Errorf("Valid(% x): %t", s, !want)
		}
	}
	for _, s := range texts() {
		if want := validOf(pieces(s)); Valid(s) != want {
			t.Errorf("Valid(% x): %t", s, !want)
		}
	}
}

// TestUnitsExamples: P2.2, the chapter's examples of Units, Byte and UnitsAt.
func TestUnitsExamples(t *testing.T) {
	for s, want := range map[string]int{example: 4, "\xff\xfe": 2, "": 0, "\xef\xbf\xbf": 1, "\xf0\x90\x80\x80": 2, "\xf0\x9f\x98": 3, "\xed\xa0\x80": 3} {
		if n := Units(s); n != want {
			t.Errorf("Units(% x): %d, not %d", s, n, want)
		}
	}
	for units, want := range map[int]int{0: 0, 1: 1, 2: 1, 3: 5, 4: 7, 9: 7, -1: 0, most: 7, least: 0} {
		if at := Byte(example, units); at != want {
			t.Errorf("Byte of the example at %d: %d, not %d", units, at, want)
		}
	}
	for at, want := range map[int]int{0: 0, 1: 1, 2: 1, 3: 1, 4: 1, 5: 3, 6: 3, 7: 4, 99: 4, -1: 0, most: 4, least: 0} {
		if n := UnitsAt(example, at); n != want {
			t.Errorf("UnitsAt of the example at %d: %d, not %d", at, n, want)
		}
	}
}

// TestUnits: P2.2, Units, Byte and UnitsAt of each number and each place, held against the pieces.
func TestUnits(t *testing.T) {
	for _, s := range texts() {
		all := pieces(s)
		if n, want := Units(s), unitsTo(all, most); n != want {
			t.Errorf("Units(% x): %d, not %d", s, n, want)
		}
		for i := -2; i <= len(s)+2; i++ { // no text has more units than bytes
			if at, want := Byte(s, i), byteOf(s, all, i); at != want {
				t.Errorf("Byte(% x, %d): %d, not %d", s, i, at, want)
			}
			if n, want := UnitsAt(s, i), unitsTo(all, i); n != want {
				t.Errorf("UnitsAt(% x, %d): %d, not %d", s, i, n, want)
			}
		}
	}
}

// TestPlacesAndUnits: P2.4: Byte and UnitsAt undo each other, and rise.
func TestPlacesAndUnits(t *testing.T) {
	for _, s := range texts() {
		begins := map[int]int{len(s): 1}
		for _, p := range pieces(s) {
			begins[p.from] = 1
		}
		for at := 0; at <= len(s); at++ {
			back := Byte(s, UnitsAt(s, at))
			if begins[at] == 1 && back != at || begins[at] == 0 && (back >= at || back < at-3) {
				t.Errorf("Byte of UnitsAt of % x at %d: %d", s, at, back)
			}
		}
		for n := 0; n <= Units(s); n++ {
			if back := UnitsAt(s, Byte(s, n)); back != n && back != n-1 {
				t.Errorf("UnitsAt of Byte of % x at %d: %d", s, n, back)
			}
		}
		for i := -2; i <= len(s)+2; i++ {
			if Byte(s, i) > Byte(s, i+1) || UnitsAt(s, i) > UnitsAt(s, i+1) {
				t.Errorf("Byte or UnitsAt of % x falls behind %d", s, i)
			}
		}
	}
}

// TestBehindAValidText: P2.5: what stands behind a valid text keeps its units, and whether it is valid.
func TestBehindAValidText(t *testing.T) {
	all := texts()
	for i, other := range all {
		for _, one := range []string{all[(i*7+1)%len(all)], all[(i*31+17)%len(all)], "", "\xc3\xa9", "\xf0\x9f\x98\x80"} {
			if !Valid(one) {
				continue
			}
			if n, want := Units(one+other), Units(one)+Units(other); n != want {
				t.Errorf("Units of % x and % x: %d, not %d", one, other, n, want)
			}
			if Valid(one+other) != Valid(other) {
				t.Errorf("Valid of % x and % x: %t", one, other, !Valid(other))
			}
		}
	}
}

// TestNothingPanics: P2.6: no call panics, whatever it is given.
func TestNothingPanics(t *testing.T) {
	long := strings.Repeat(example+"\xf0\x9f", 1<<14)
	edges := []int{least, least + 1, -1 << 31, -2, -1, 0, 1, 2, 3, 4, 5, 1 << 16, 1<<31 - 1, 1 << 31, 1 << 32, most - 1, most}
	for _, s := range append(texts(), long) {
		Valid(s)
		Units(s)
		for _, n := range edges {
			Decode(s, n)
			Byte(s, n)
			UnitsAt(s, n)
		}
	}
	for _, n := range edges {
		Encode(n)
	}
	if n := Units(long); n != 6<<14 {
		t.Errorf("Units of the long text: %d", n)
	}
	if at := Byte(long, 6<<14-1); at != len(long)-1 {
		t.Errorf("Byte of the long text's last unit: %d", at)
	}
}
