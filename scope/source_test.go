package scope

import (
	"math/rand"
	"strconv"
	"strings"

	"emend/api"
)

// source writes programs by a short rule, of few names, so that many of them meet.
type source struct {
	*rand.Rand
	dirs []string
	deep int // how many statements may still lie in one another
}

// dirNames are directories; some of them are names of other things, too.
var dirNames = []string{"p", "q", "r", "a", "T"}

func (s *source) pick(l ...string) string { return l[s.Intn(len(l))] }

// name is one of few.
func (s *source) name() string { return s.pick("a", "b", "c", "f", "T", "U", "p", "q", "r") }

// few are up to some texts that a function makes.
func (s *source) few(most int, between string, one func() string) string {
	var l []string
	for range s.Intn(most + 1) {
		l = append(l, one())
	}
	return strings.Join(l, between)
}

// workspace is some documents, of which hardly any two programs are without a fault.
func (s *source) workspace() (l []api.Doc) {
	s.dirs = dirNames[:1+s.Intn(len(dirNames))]
	for _, dir := range []string{"T", "a", "p", "q", "r"} {
		for _, file := range []string{"a", "b", "p"} {
			if strings.Contains(strings.Join(s.dirs, " "), dir) && (file == "a" || s.Intn(3) == 0) {
				l = append(l, api.Doc{URI: "file:///" + dir + "/" + file + ".go", Text: s.file(dir), Version: s.Int63()})
			}
		}
	}
	return l
}

// file is a file; each import stands on a line of its own.
func (s *source) file(dir string) string {
	if s.Intn(40) == 0 {
		dir = s.name()
	}
	text := s.pick("", "// é\n", " ") + "package " + dir + "\n"
	for range s.Intn(3) {
		target := s.pick(s.dirs...)
		if s.Intn(20) == 0 {
			target = s.name()
		}
		text += "import " + s.pick(`"`+target+`"`, `"\x`+strconv.FormatInt(int64(target[0]), 16)+target[1:]+`"`) + "\n"
	}
	for range s.Intn(6) {
		s.deep = 1 + s.Intn(5)
		text += s.decl() + "\n"
	}
	return text
}

func (s *source) decl() string {
	if s.Intn(3) == 0 {
		return "type " + s.name() + " struct { " + s.few(3, "; ", s.field) + " }"
	}
	receiver := ""
	if s.Intn(2) == 0 {
		receiver = "(" + s.name() + " " + s.name() + ") "
	}
	return "func " + receiver + s.name() + "(" + s.few(3, ", ", s.field) + ") " + s.pick("", s.typ()+" ") + s.block()
}

func (s *source) field() string { return s.name() + " " + s.typ() }

func (s *source) typ() string {
	return s.pick("int", "bool", "string", "float64", s.name(), s.name(), s.name()+"."+s.name())
}

func (s *source) block() string { return "{ " + s.few(4, s.pick("; ", "\n"), s.stmt) + " }" }

func (s *source) stmt() string {
	if s.deep <= 0 {
		return s.leaf()
	}
	s.deep--
	defer func() { s.deep++ }()
	switch s.Intn(10) {
	case 0:
		return s.block()
	case 1:
		return "if " + s.expr(2, true) + " " + s.block() + s.pick("", " else "+s.block(), " else if "+s.expr(1, true)+" "+s.block())
	case 2:
		return s.loop()
	case 3:
		return s.name() + ": " + s.loop()
	}
	return s.leaf()
}

func (s *source) loop() string {
	head := s.pick("", "", s.expr(1, true)+" ", s.name()+" := "+s.expr(1, true)+"; "+s.expr(1, true)+"; "+s.assign(true)+" ",
		s.name()+" := "+s.expr(1, true)+";; ", "; ; "+s.assign(true)+" ", s.assign(true)+"; "+s.expr(1, true)+"; ")
	return "for " + head + s.block()
}

func (s *source) assign(head bool) string {
	return s.name() + s.pick("", "."+s.name(), "."+s.name()+"."+s.name()) + " = " + s.expr(2, head)
}

func (s *source) leaf() string {
	switch s.Intn(8) {
	case 0:
		return s.pick("break", "continue") + s.pick("", " "+s.name(), " "+s.name())
	case 1:
		return s.pick("return", "return "+s.expr(3, false))
	case 2:
		return "var " + s.name() + " " + s.pick(s.typ(), s.typ()+" = "+s.expr(2, false), "= "+s.expr(2, false))
	case 3, 4:
		return s.name() + " := " + s.expr(2, false)
	case 5:
		return s.call(2, false)
	}
	return s.assign(false)
}

func (s *source) call(deep int, head bool) string {
	return s.pick(s.name(), s.name()+"."+s.name(), "("+s.expr(deep-1, false)+")."+s.name(), "print") +
		"(" + s.few(2, ", ", func() string { return s.expr(deep-1, false) }) + ")"
}

func (s *source) expr(deep int, head bool) string {
	if deep <= 0 {
		return s.pick("1", `"x"`, "true", s.name(), s.name(), s.name()+"."+s.name())
	}
	switch s.Intn(8) {
	case 0:
		return "(" + s.expr(deep-1, false) + ")" + s.pick("", "."+s.name())
	case 1:
		return s.pick("-", "!") + s.expr(deep-1, head)
	case 2:
		return s.call(deep, head)
	case 3:
		return s.expr(deep-1, head) + s.pick(" + ", " == ", " && ") + s.expr(deep-1, head)
	case 4:
		if !head {
			keyed := func() string { return s.name() + ": " + s.expr(deep-1, false) }
			return s.pick(s.name(), s.name()+"."+s.name()) + "{" + s.few(2, ", ", keyed) + "}"
		}
	}
	return s.expr(0, head)
}

// nameEnd is where the name, or the STRING, ends that begins at a place.
func nameEnd(text string, at int) int {
	if text[at] == '"' {
		return at + 2 + strings.IndexByte(text[at+1:], '"')
	}
	end := at
	for end < len(text) && strings.IndexByte("_0123456789abcdefghijklmnopqrstuvwxyzABCDEFGHIJKLMNOPQRSTUVWXYZ", text[end]) >= 0 {
		end++
	}
	return end
}

// mend takes a fault's cause away: an import that may not be goes, and what has a name that may not be gets another one.
func mend(docs []api.Doc, dirs []string, f api.Fault, fresh string) {
	text := docs[f.Doc].Text
	end := nameEnd(text, f.At)
	switch {
	case text[f.At] == '"':
		line := strings.LastIndexByte(text[:f.At], '\n') + 1
		text = text[:line] + text[end+1:]
	case f.E == api.ErrName:
		text = text[:f.At] + dirs[f.Doc] + text[end:]
	default:
		text = text[:f.At] + fresh + text[end:]
	}
	docs[f.Doc].Text = text
}
