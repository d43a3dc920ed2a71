package frame

import (
	"math/rand"
	"regexp"
	"strconv"
	"strings"

	"emend/api"
)

// ended is a text with the bytes 13 10 in the place of each slash.
func ended(s string) string { return strings.ReplaceAll(s, "/", "\r\n") }

// What a head is, by the chapter's words: the length's line alone, ahead of the type's line, or behind it.
var (
	lengthForm = `[Cc][Oo][Nn][Tt][Ee][Nn][Tt]-[Ll][Ee][Nn][Gg][Tt][Hh]: *([0-9]{1,18})\r\n`
	typeForm   = `[Cc][Oo][Nn][Tt][Ee][Nn][Tt]-[Tt][Yy][Pp][Ee]:[ -~]*\r\n`
	headForm   = regexp.MustCompile(`\A(?:` + lengthForm + `|` + lengthForm + typeForm + `|` + typeForm + lengthForm + `)\r\n\z`)
)

// model is a reader as the chapter tells of it.
type model struct {
	held   string
	broken bool
}

func (m *model) push(s string) api.Errno {
	if m.broken {
		return api.ErrForm
	}
	m.held += s
	return api.OK
}

func (m *model) next() (string, bool, api.Errno) {
	if m.broken {
		return "", false, api.ErrForm
	}
	end := strings.Index(m.held, "\r\n\r\n") + 4
	if end == 3 || end > 1024 {
		m.broken = len(m.held) >= 1024
		if m.broken {
			return "", false, api.ErrForm
		}
		return "", false, api.OK
	}
	parts := headForm.FindStringSubmatch(m.held[:end])
	if parts == nil {
		m.broken = true
		return "", false, api.ErrForm
	}
	digits := strings.TrimLeft(parts[1]+parts[2]+parts[3], "0") // just one of them matched
	if len(digits) > 6 || len(digits) == 6 && digits > "262144" {
		m.broken = true
		return "", false, api.ErrLong
	}
	long, _ := strconv.Atoi("0" + digits)
	if len(m.held) < end+long {
		return "", false, api.OK
	}
	body := m.held[end : end+long]
	m.held = m.held[end+long:]
	return body, true, api.OK
}

// snippets are pieces of heads, and what spoils one.
func snippets() []string {
	return []string{
		"\r\n", "\r", "\n", "Content-Length:", "content-type:", "CONTENT-LENGTH", "Content-Type", ":", " ", "\t",
		"0", "2", "17", "262144", "262145", "000000000000000001", "-", "+", "a", "\x00", "\x7f", "\xff", "~", "/",
	}
}

// lines are such as may stand in a head, and such as may not.
func lines() []string {
	return []string{
		"Content-Length: 2", "content-length:0", "CONTENT-LENGTH:    0003", "Content-Length: 262145", "cONTENT-lENGTH:262144",
		"Content-Type:", "content-type: a/b; charset=utf-8", "CONTENT-TYPE::~ ", "Content-Type: 5",
		"", " ", ":", "x", "x: 1", "Content-Length", "Content-Type", "Content-Length:", "Content-Length: ", "Content-Length :2",
		" Content-Length: 2", "Content-Length: 2 ", "Content-Length:\t2", "Content-Length: +2", "Content-Length: -2", "Content-Length: 2,2",
		"Content-Length: 1_0", "Content-Length: 0x2", "Content-Length: 1 2", "Content-Length: 0000000000000000002", "Content-Length:: 2",
		"Content-Type: \t", "Content-Type: \x7f", "Content-Type: \u00e9", "Content-Type: \x00", "Content-Type: \r", "Content-Type: \n",
		"Content-Length: 2\r", "Content-Length: 2\n", "\rContent-Length: 2", "\nContent-Length: 2", "Content-Length: 2\nContent-Type: a",
		"Content_Length: 2", "Content-Lengths: 2", "Content-Lengt: 2", "ContentLength: 2", "Content-\u212bength: 2",
	}
}

// bodies are such as look like heads, or ends of lines, and others.
func bodies() []string {
	return []string{"", "hi", "\r\n\r\n", "\r\n", "Content-Length: 2\r\n\r\n", "\x00\xff", "{}", strings.Repeat("\r\n\r\n", 300), strings.Repeat("a", 2000)}
}

// randomFrame is a frame of a body, with one of the heads that it may have.
func randomFrame(r *rand.Rand, body string) string {
	length := strings.Repeat(" ", r.Intn(3)) + strings.Repeat("0", r.Intn(3)) + strconv.Itoa(len(body))
	head := []string{"Content-Length:", "content-length:", "CONTENT-LENGTH:", "cOnTeNt-LeNgTh:"}[r.Intn(4)] + length + "\r\n"
	kind := []string{"Content-Type:", "content-type: utf8", "CONTENT-TYPE::;~"}[r.Intn(3)] + "\r\n"
	switch r.Intn(4) {
	case 0:
		head += kind
	case 1:
		head = kind + head
	}
	return head + "\r\n" + body
}

// randomStream is frames one behind the other, and often something that breaks the reader, or a part of a frame.
func randomStream(r *rand.Rand) string {
	var b strings.Builder
	for range r.Intn(6) {
		b.WriteString(randomFrame(r, bodies()[r.Intn(len(bodies()))]))
	}
	switch r.Intn(3) {
	case 0:
		b.WriteString(lines()[r.Intn(len(lines()))] + "\r\n\r\n" + Put("more"))
	case 1:
		frame := Put("rest")
		b.WriteString(frame[:r.Intn(len(frame))])
	}
	return b.String()
}
