package frame

import (
	"math/rand"
	"runtime"
	"slices"
	"strconv"
	"strings"
	"testing"

	"emend/api"
)

// pair is a reader and the model of it, that are asked for the same.
type pair struct {
	t *testing.T
	r *Reader
	m *model
}

func newPair(t *testing.T) pair { return pair{t, New(), &model{}} }

// sayIfOther tells of what is held, and of whether it is broken, where it is not as in the model.
func (p pair) sayIfOther() {
	p.t.Helper()
	if n, b := p.r.Held(), p.r.Broken(); n != len(p.m.held) || b != p.m.broken {
		p.t.Errorf("of %q: Held %d, Broken %t, not %d, %t", short(p.m.held), n, b, len(p.m.held), p.m.broken)
	}
}

func (p pair) push(s string) {
	p.t.Helper()
	if e, want := p.r.Push(s), p.m.push(s); e != want {
		p.t.Errorf("Push(%q): %d, not %d", short(s), e, want)
	}
	p.sayIfOther()
}

// next asks for a frame, and tells whether there was one.
func (p pair) next() bool {
	p.t.Helper()
	from := short(p.m.held)
	body, ok, e := p.r.Next()
	wantBody, wantOK, wantE := p.m.next()
	if body != wantBody || ok != wantOK || e != wantE {
		p.t.Errorf("Next of %q: %q, %t, %d, not %q, %t, %d", from, short(body), ok, e, short(wantBody), wantOK, wantE)
	}
	p.sayIfOther()
	return ok && wantOK
}

// short is a text, or what it begins with.
func short(s string) string { return s[:min(len(s), 200)] }

// ask pushes a stream into a new reader and takes all frames, as the model does.
func ask(t *testing.T, s string) {
	t.Helper()
	p := newPair(t)
	p.push(s)
	for p.next() {
	}
	p.next()
	p.push("x")
}

// step is a push, if nothing else is set, or a Next and what it answers.
type step struct {
	push string
	next bool
	body string
	ok   bool
	e    api.Errno
}

func pushed(s string) step   { return step{push: ended(s)} }
func body(s string) step     { return step{next: true, body: ended(s), ok: true} }
func none() step             { return step{next: true} }
func fault(e api.Errno) step { return step{next: true, e: e} }

// TestExamples: P5.2 and P5.3, the chapter's examples.
func TestExamples(t *testing.T) {
	for _, c := range []struct {
		steps  []step
		held   int
		broken bool
	}{
		{[]step{pushed("Content-Length: 2//h"), none(), pushed("iC"), body("hi"), none()}, 1, false},
		{[]step{pushed("CONTENT-TYPE: x/content-length:0002//hi"), body("hi")}, 0, false},
		{[]step{pushed("//"), fault(api.ErrForm), fault(api.ErrForm)}, 4, true},
		{[]step{pushed("Content-Length: 2/Content-Length: 2//"), fault(api.ErrForm)}, 40, true},
		{[]step{pushed("Content-Length: 262145//"), fault(api.ErrLong), fault(api.ErrForm), fault(api.ErrForm)}, 26, true},
		{[]step{pushed(strings.Repeat("x", 1023)), none()}, 1023, false},
		{[]step{pushed(strings.Repeat("x", 1024)), fault(api.ErrForm)}, 1024, true},
		{[]step{none(), pushed(""), none()}, 0, false},
		{[]step{pushed("Content-Length: 0//Content-Length:1//a"), body(""), body("a"), none()}, 0, false},
		{[]step{pushed("Content-Length: 4////x"), body("//"), none()}, 1, false},
		{[]step{pushed("Content-Length: 2//hiContent-Length 2//hi"), body("hi"), fault(api.ErrForm)}, 22, true},
	} {
		r := New()
		for i, s := range c.steps {
			if !s.next {
				if e := r.Push(s.push); e != api.OK {
					t.Errorf("%+v: step %d: Push: %d", c.steps, i, e)
				}
				continue
			}
			if body, ok, e := r.Next(); body != s.body || ok != s.ok || e != s.e {
				t.Errorf("%+v: step %d: Next: %q, %t, %d", c.steps, i, body, ok, e)
			}
		}
		if r.Held() != c.held || r.Broken() != c.broken {
			t.Errorf("%+v: Held %d, Broken %t, not %d, %t", c.steps, r.Held(), r.Broken(), c.held, c.broken)
		}
	}
}

// TestPut: P5.1, of bodies of all kinds, and of one that no frame may have.
func TestPut(t *testing.T) {
	for s, want := range map[string]string{
		"":               "Content-Length: 0//",
		"hi":             "Content-Length: 2//hi",
		"\u00e9":         "Content-Length: 2//\u00e9",
		"\x00\xff\r\n\n": "Content-Length: 5//\x00\xff\r\n\n",
		"0123456789":     "Content-Length: 10//0123456789",
	} {
		if got := Put(s); got != ended(want) {
			t.Errorf("Put(%q): %q, not %q", s, got, ended(want))
		}
	}
	for _, n := range []int{1, 9, 10, 99, 100, 1024, api.MaxFrame, api.MaxFrame + 1, 1 << 20} {
		s := strings.Repeat("a", n)
		if got := Put(s); got != "Content-Length: "+strconv.Itoa(n)+"\r\n\r\n"+s {
			t.Errorf("Put of %d bytes: %q", n, short(got))
		}
	}
}

// TestNotMade: P5.2 and P5.3, of nil, and of what New did not make.
func TestNotMade(t *testing.T) {
	made := New()
	made.Push("Content-Length: 2\r\n\r\nhi")
	broken := New()
	broken.Push("\r\n\r\n")
	broken.Next()
	ofMade, ofBroken := *made, *broken
	for name, r := range map[string]*Reader{"nil": nil, "new": new(Reader), "a copy": &ofMade, "a broken one's copy": &ofBroken} {
		for range 2 { // the second time behind a Push that was refused
			if body, ok, e := r.Next(); body != "" || ok || e != api.ErrNil {
				t.Errorf("%s: Next: %q, %t, %d", name, body, ok, e)
			}
			if r.Held() != 0 || r.Broken() {
				t.Errorf("%s: Held %d, Broken %t", name, r.Held(), r.Broken())
			}
			if e := r.Push("Content-Length: 0\r\n\r\n"); e != api.ErrNil {
				t.Errorf("%s: Push: %d", name, e)
			}
		}
	}
	if body, ok, e := made.Next(); body != "hi" || !ok || e != api.OK {
		t.Errorf("what was copied: %q, %t, %d", body, ok, e)
	}
	if New() == New() {
		t.Errorf("New: one reader twice")
	}
}

// TestHeads: P5.3, heads that may be, with the length that they tell, and such as may not (below 0).
func TestHeads(t *testing.T) {
	for head, long := range map[string]int{
		"Content-Length: 3/":                                3,
		"content-length:3/":                                 3,
		"CONTENT-LENGTH:3/":                                 3,
		"cOnTeNt-LeNgTh:     3/":                            3,
		"Content-Length: 000000000000000003/":               3,
		"Content-Length: 0/":                                0,
		"Content-Length: 000000000000000000/":               0,
		"Content-Length: 10/":                               10,
		"Content-Length: 3/Content-Type:/":                  3,
		"Content-Type:/Content-Length: 3/":                  3,
		"content-TYPE: a/CONTENT-length: 3/":                3,
		"Content-Type::: ~!/Content-Length: 3/":             3,
		"Content-Type: Content-Length: 9/Content-Length:3/": 3,
		"/":                                    -1,
		"Content-Type: a/":                     -1,
		"Content-Type: a/Content-Type: b/":     -1,
		"Content-Length: 3/Content-Length: 3/": -1,
		"Content-Length: 3/content-length: 4/": -1,
		"Content-Length: 3/Content-Type: a/Content-Type: a/": -1,
		"Content-Type: a/Content-Length: 3/Content-Type: a/": -1,
		"Content-Length: 3/Content-Type: a/X: b/":            -1,
		"Content-Length: 3/X: b/":                            -1,
		"Content-Length: 3/Content-Type/":                    -1,
		"Content-Length: 3/Content-Type: \t/":                -1,
		"Content-Length: 3/Content-Type: \x1f/":              -1,
		"Content-Length: 3/Content-Type: \x7f/":              -1,
		"Content-Length: 3/Content-Type: \u00e9/":            -1,
		"Content-Length: 3/Content-Type: a\r/":               -1,
		"Content-Length: 3/Content-Type: a\n/":               -1,
		"Content-Length: 3\r/":                               -1,
		"Content-Length: 3\n/":                               -1,
		"\nContent-Length: 3/":                               -1,
		"/Content-Length: 3/":                                -1,
		"Content-Length: 3\nContent-Type: a/":                -1,
		"Content-Length 3/":                                  -1,
		"Content-Length:/":                                   -1,
		"Content-Length:   /":                                -1,
		"Content-Length: 3 /":                                -1,
		"Content-Length:\t3/":                                -1,
		"Content-Length: +3/":                                -1,
		"Content-Length: -0/":                                -1,
		"Content-Length: -3/":                                -1,
		"Content-Length: 1 0/":                               -1,
		"Content-Length: 1_0/":                               -1,
		"Content-Length: 0x3/":                               -1,
		"Content-Length: 3.0/":                               -1,
		"Content-Length: \u0663/":                            -1,
		"Content-Length: 0000000000000000003/":               -1,
		"Content-Length: 1000000000000000000/":               -1,
		"Content-Length: 99999999999999999999999/":           -1,
		"Content-Length : 3/":                                -1,
		" Content-Length: 3/":                                -1,
		"Content_Length: 3/":                                 -1,
		"ContentLength: 3/":                                  -1,
		"Content-Len: 3/":                                    -1,
		"Content-Lengths: 3/":                                -1,
	} {
		s := ended(head + "/")
		r := New()
		r.Push(s + strings.Repeat("b", 20))
		body, ok, e := r.Next()
		switch {
		case long >= 0 && (body != strings.Repeat("b", long) || !ok || e != api.OK || r.Held() != 20-long || r.Broken()):
			t.Errorf("%q: %q, %t, %d; Held %d, Broken %t", s, body, ok, e, r.Held(), r.Broken())
		case long < 0 && (body != "" || ok || e != api.ErrForm || r.Held() != len(s)+20 || !r.Broken()):
			t.Errorf("%q: %q, %t, %d; Held %d, Broken %t", s, body, ok, e, r.Held(), r.Broken())
		}
	}
}

// TestRows: P5.3, of all rows of a few lines, and of a few pieces of lines, as the model has it.
func TestRows(t *testing.T) {
	known := lines()
	for _, a := range known {
		ask(t, a+"\r\n\r\nhi")
		for _, b := range known {
			ask(t, a+"\r\n"+b+"\r\n\r\nhi"+a)
			for _, c := range known[:12] {
				ask(t, a+"\r\n"+b+"\r\n"+c+"\r\n\r\nhi")
			}
		}
	}
	pieces := snippets()
	for _, a := range pieces {
		for _, b := range pieces {
			for _, c := range pieces {
				ask(t, a+b+c+"\r\n\r\n")
				ask(t, "Content-Length: 1"+a+b+c+"\r\n\r\n")
				ask(t, "Content-Length:"+a+b+c+"\r\n\r\nbody")
				ask(t, "Content-Length: 2\r\nContent-Type:"+a+b+c+"\r\n\r\nhi")
			}
		}
	}
}

// TestBytes: P5.3, each byte within each place of a head.
func TestBytes(t *testing.T) {
	const s = "Content-Length: 2\r\nContent-Type: a\r\n\r\n"
	for at := range len(s) {
		for c := range 256 {
			ask(t, s[:at]+string([]byte{byte(c)})+s[at+1:]+"hi")
			ask(t, s[:at]+string([]byte{byte(c)})+s[at:]+"hi")
		}
		ask(t, s[:at]+s[at+1:]+"hi")
	}
}

// typed is a head of so many bytes.
func typed(long int) string {
	const from, to = "Content-Length: 2\r\nContent-Type: ", "\r\n\r\n"
	return from + strings.Repeat("t", long-len(from)-len(to)) + to
}

// TestHeadLength: P5.3, heads about as long as one may be, and what has no end, whole and byte by byte.
func TestHeadLength(t *testing.T) {
	for long := 1018; long <= 1030; long++ {
		for _, s := range []string{typed(long) + "hi", strings.Repeat("x", long), strings.Repeat("x", long) + "\r\n\r\n", strings.Repeat("\r\n", long/2)[2:]} {
			ask(t, s)
			p := newPair(t)
			for i := range len(s) {
				p.push(s[i : i+1])
				p.next()
			}
			ask(t, Put("hi")+s)
		}
	}
	r := New()
	r.Push(typed(1024) + "hi")
	if body, ok, e := r.Next(); body != "hi" || !ok || e != api.OK {
		t.Errorf("a head of 1024 bytes: %q, %t, %d", body, ok, e)
	}
	r.Push(typed(1025) + "hi")
	if body, ok, e := r.Next(); body != "" || ok || e != api.ErrForm {
		t.Errorf("a head of 1025 bytes: %q, %t, %d", body, ok, e)
	}
}

// TestBodyLength: P5.3, the longest body, and longer ones, of which none is read.
func TestBodyLength(t *testing.T) {
	long := strings.Repeat("ab", api.MaxFrame/2)
	r := New()
	r.Push(Put(long) + Put("hi"))
	for _, want := range []string{long, "hi"} {
		if body, ok, e := r.Next(); body != want || !ok || e != api.OK {
			t.Errorf("%d bytes: %q.., %t, %d", len(want), short(body), ok, e)
		}
	}
	for _, digits := range []string{"262145", "000000000000262145", "262146", "4294967296", "4294967298", "999999999999999999"} {
		s := "Content-Length: " + digits + "\r\n\r\n"
		for _, more := range []string{"", "hi", long + "a"} {
			r := New()
			r.Push(s + more)
			for _, want := range []api.Errno{api.ErrLong, api.ErrForm, api.ErrForm} {
				if body, ok, e := r.Next(); body != "" || ok || e != want {
					t.Errorf("%s: %q, %t, %d, not %d", digits, short(body), ok, e, want)
				}
				if e := r.Push("x"); e != api.ErrForm || !r.Broken() || r.Held() != len(s+more) {
					t.Errorf("%s: Push %d, Broken %t, Held %d", digits, e, r.Broken(), r.Held())
				}
			}
		}
	}
	ask(t, Put(long+"a")) // what Put makes of a body that is too long
}

// TestBreaksWhenAsked: P5.3, a reader breaks by Next alone, and then for good.
func TestBreaksWhenAsked(t *testing.T) {
	for _, s := range []string{"\r\n\r\n", "x\r\n\r\n", strings.Repeat("x", 1024), strings.Repeat("x", 5000), "Content-Length: 262145\r\n\r\n"} {
		r := New()
		if e := r.Push(s); e != api.OK || r.Broken() || r.Held() != len(s) {
			t.Errorf("%q: Push %d, Broken %t, Held %d", short(s), e, r.Broken(), r.Held())
		}
		if e := r.Push(Put("hi")); e != api.OK || r.Broken() || r.Held() != len(s+Put("hi")) {
			t.Errorf("%q and more: Push %d, Broken %t, Held %d", short(s), e, r.Broken(), r.Held())
		}
		r.Next()
		for range 3 {
			if body, ok, e := r.Next(); body != "" || ok || e != api.ErrForm {
				t.Errorf("%q, broken: Next: %q, %t, %d", short(s), body, ok, e)
			}
			if e := r.Push(Put("hi")); e != api.ErrForm || !r.Broken() || r.Held() != len(s+Put("hi")) {
				t.Errorf("%q, broken: Push %d, Broken %t, Held %d", short(s), e, r.Broken(), r.Held())
			}
		}
	}
	r := New()
	for _, s := range []string{"x", "\r\n", "Content-Length: 2\r\n", "\x00"} { // no head's lines, but without an end
		r.Push(s)
		if body, ok, e := r.Next(); body != "" || ok || e != api.OK || r.Broken() {
			t.Errorf("no end: %q, %t, %d", body, ok, e)
		}
	}
}

// TestPutAndTaken: P5.4, frames come out as they were put, in all parts of two and byte by byte, however often one asks.
func TestPutAndTaken(t *testing.T) {
	want := []string{"", "hi", "\r\n\r\n", "Content-Length: 2\r\n\r\n", "", "\x00\xff"}
	var s string
	for _, body := range want {
		s += Put(body)
	}
	for at := range len(s) + 1 {
		for _, often := range []int{0, 1, 3} {
			r := New()
			var got []string
			r.Push(s[:at])
			got = append(got, taken(t, r, often)...)
			r.Push(s[at:])
			got = append(got, taken(t, r, len(want)+1)...)
			if !slices.Equal(got, want) || r.Held() != 0 || r.Broken() {
				t.Errorf("cut at %d, asked %d times: %q; Held %d, Broken %t", at, often, got, r.Held(), r.Broken())
			}
		}
	}
	r := New()
	var got []string
	for i := range len(s) {
		r.Push(s[i : i+1])
		got = append(got, taken(t, r, i%3)...)
	}
	if got = append(got, taken(t, r, len(want)+1)...); !slices.Equal(got, want) || r.Held() != 0 || r.Broken() {
		t.Errorf("byte by byte: %q; Held %d, Broken %t", got, r.Held(), r.Broken())
	}
}

// taken are the bodies that come out when a reader that does not break is asked so often.
func taken(t *testing.T, r *Reader, often int) []string {
	t.Helper()
	var l []string
	for range often {
		body, ok, e := r.Next()
		if e != api.OK {
			t.Errorf("Next: %d", e)
		}
		if ok {
			l = append(l, body)
		}
	}
	return l
}

// TestParts: P5.4, streams of any kind, in any parts: all steps as in the model, and in the end what comes of the whole.
func TestParts(t *testing.T) {
	random := rand.New(rand.NewSource(5))
	for range 4000 {
		s := randomStream(random)
		whole := newPair(t)
		whole.push(s)
		want := allTaken(whole.r)
		for range 3 {
			p := newPair(t)
			var got []string
			for from := 0; from < len(s); {
				to := min(len(s), from+random.Intn(60))
				p.push(s[from:to])
				from = to
				for range random.Intn(3) {
					before := *p.m
					if p.next() {
						body, _, _ := before.next()
						got = append(got, body)
					}
				}
			}
			if got = append(got, allTaken(p.r)...); !slices.Equal(got, want) || p.r.Broken() != whole.r.Broken() {
				t.Errorf("%q: %q, %t, not %q, %t", short(s), got, p.r.Broken(), want, whole.r.Broken())
			}
		}
	}
}

// allTaken are the bodies that come out until there is none.
func allTaken(r *Reader) []string {
	var l []string
	for {
		body, ok, _ := r.Next()
		if !ok {
			return l
		}
		l = append(l, body)
	}
}

// TestAnyBytes: P5.3, bytes that are no frames, as in the model, and no two readers know of each other.
func TestAnyBytes(t *testing.T) {
	random := rand.New(rand.NewSource(6))
	pieces := append(append(snippets(), lines()...), bodies()...)
	for range 20000 {
		a, b := newPair(t), newPair(t)
		for range random.Intn(12) {
			p := []pair{a, b}[random.Intn(2)]
			p.push(pieces[random.Intn(len(pieces))])
			if random.Intn(2) == 0 {
				p.next()
			}
		}
	}
}

// TestBodiesStay: P5.3, a body that came out stays as it is, whatever comes in and out behind it.
func TestBodiesStay(t *testing.T) {
	r := New()
	var got, want []string
	for i := range 400 {
		want = append(want, strings.Repeat(string([]byte{byte('a' + i%26)}), i%90))
		r.Push(Put(want[i]))
		got = append(got, taken(t, r, i%3)...)
	}
	if got = append(got, allTaken(r)...); !slices.Equal(got, want) {
		t.Errorf("%q, not %q", got, want)
	}
}

// TestKept: no memory is kept for what was taken, nor for what a broken reader held.
func TestKept(t *testing.T) {
	long := strings.Repeat("a", api.MaxFrame)
	r := New()
	r.Push(Put(long) + "Content")
	r.Next()
	if n := cap(r.held); n > 100 {
		t.Errorf("of a long frame %d bytes are kept", n)
	}
	r.Push(long)
	r.Next()
	if n := cap(r.held); n > 0 || r.Held() != len("Content"+long) {
		t.Errorf("of a broken stream %d bytes are kept, and %d counted", n, r.Held())
	}
}

// TestManyFrames: many frames that come at one time are not moved each time that one of them is taken.
func TestManyFrames(t *testing.T) {
	const many = 1 << 15
	r := New()
	r.Push(strings.Repeat(Put("hi"), many))
	var before, behind runtime.MemStats
	runtime.ReadMemStats(&before)
	if n := len(allTaken(r)); n != many || r.Held() != 0 {
		t.Errorf("%d frames, not %d; Held %d", n, many, r.Held())
	}
	runtime.ReadMemStats(&behind)
	if each := (behind.TotalAlloc - before.TotalAlloc) / many; each > 4000 {
		t.Errorf("%d bytes of memory were taken for each frame", each)
	}
}

// TestByteByByte: P5.4, a long frame whose bytes come one by one.
func TestByteByByte(t *testing.T) {
	r := New()
	s := Put(strings.Repeat("a", api.MaxFrame))
	for i := range len(s) {
		if _, ok, e := r.Next(); ok || e != api.OK {
			t.Fatalf("after %d bytes: %t, %d", i, ok, e)
		}
		r.Push(s[i : i+1])
	}
	if body, ok, e := r.Next(); body != s[len(s)-api.MaxFrame:] || !ok || e != api.OK {
		t.Errorf("byte by byte: %q.., %t, %d", short(body), ok, e)
	}
}
