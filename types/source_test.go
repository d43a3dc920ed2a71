package types

import (
	"math/rand"
	"slices"
	"strconv"
	"strings"

	"emend/api"
)

// source writes workspaces by a short rule: packages, imports and declarations are as scope wants them, types need not be.
type source struct {
	*rand.Rand
	types map[string][]string // their names, by directories
	count map[string]int      // how many members each type's name has
	next  int                 // for names that stand nowhere else
}

func (s *source) pick(l ...string) string { return l[s.Intn(len(l))] }

// fresh is a name that stands nowhere else.
func (s *source) fresh() string {
	s.next++
	return "v" + strconv.Itoa(s.next)
}

// some are some of a list, in any order, at least a number of them.
func (s *source) some(least int, l ...string) []string {
	s.Shuffle(len(l), func(i, j int) { l[i], l[j] = l[j], l[i] })
	return l[:least+s.Intn(len(l)-least+1)]
}

// workspace is some documents of three packages.
func (s *source) workspace() (docs []api.Doc) {
	s.types, s.count = map[string][]string{}, map[string]int{}
	decls := map[string][]string{}
	for _, dir := range []string{"p", "q", "r"} {
		s.types[dir] = s.some(1, "T", "U", "V", "W", "t", "u")
	}
	for _, dir := range []string{"p", "q", "r"} {
		for i, name := range s.types[dir] {
			decls[dir] = append(decls[dir], s.structure(dir, name, i+1))
		}
		for _, name := range s.some(0, "f", "g", "F", "G") {
			decls[dir] = append(decls[dir], "func "+name+s.rest(dir))
		}
		for range s.Intn(5) {
			decls[dir] = append(decls[dir], s.method(dir))
		}
		l := decls[dir]
		s.Shuffle(len(l), func(i, j int) { l[i], l[j] = l[j], l[i] })
		at := len(l)
		if s.Intn(3) == 0 {
			at = s.Intn(len(l) + 1)
			docs = append(docs, api.Doc{URI: "file:///" + dir + "/a.go", Text: s.file(dir, l[:at])})
			l = l[at:]
		}
		docs = append(docs, api.Doc{URI: "file:///" + dir + "/b.go", Text: s.file(dir, l)})
	}
	return docs
}

// file is a document's text, each declaration on a line of its own.
func (s *source) file(dir string, decls []string) string {
	text := "package " + dir + "\n"
	for _, other := range []string{"q", "r"} {
		if other > dir && s.Intn(5) > 0 {
			text += "import \"" + other + "\"\n"
		}
	}
	return text + strings.Join(decls, "\n") + "\n"
}

// structure is a type, of whose package the types from a number on mostly lie in it.
func (s *source) structure(dir, name string, from int) string {
	var l []string
	most := 5
	if s.Intn(8) == 0 {
		most = 150
	}
	for range s.Intn(most) {
		field := "a" + strconv.Itoa(len(l))
		if len(l) == 0 && s.Intn(4) == 0 {
			field = s.pick("T", "int_", "q", name)
		}
		x := s.typ(dir)
		if later := s.types[dir][from:]; s.Intn(3) == 0 && len(later) > 0 {
			x = s.pick(later...)
		} else if most > 5 || slices.Contains(s.types[dir][:from], x) && s.Intn(5) > 0 {
			x = "int"
		}
		l = append(l, field+" "+x)
	}
	return "type " + name + " struct { " + strings.Join(l, "; ") + " }"
}

func (s *source) method(dir string) string {
	own := s.pick(s.types[dir]...)
	if s.Intn(8) == 0 {
		own = s.pick("Z", "q", "f", "T")
	}
	s.count[dir+"."+own]++
	return "func (" + s.pick("t", "U", "r") + " " + own + ") " + s.pick("m", "M") + strconv.Itoa(s.count[dir+"."+own]) + s.rest(dir)
}

// rest is what stands behind a function's name.
func (s *source) rest(dir string) string {
	var l []string
	for range s.Intn(4) {
		l = append(l, s.fresh()+" "+s.typ(dir))
	}
	if len(l) > 0 && s.Intn(3) == 0 {
		l[0] = s.pick("q", "T") + " " + s.typ(dir)
	}
	return "(" + strings.Join(l, ", ") + ") " + s.pick("", s.typ(dir)+" ") + s.block(dir)
}

func (s *source) block(dir string) string {
	text := "{ "
	for range s.Intn(3) {
		text += s.pick(
			"var "+s.fresh()+" "+s.typ(dir), s.fresh()+" := T{}", s.fresh()+" := q.T{}", s.fresh()+" := r.u{}.a0",
			"{ q := 1; var "+s.fresh()+" q.T }", "{ T := 1; var "+s.fresh()+" "+s.typ(dir)+" }", "print(f, q.F(1), T)",
			"L"+s.fresh()+": for { break }", "for t := 1; ; { x = t }",
		) + "; "
	}
	return text + "}"
}

// typ is a type, that mostly is there.
func (s *source) typ(dir string) string {
	other := s.pick("p", "q", "r", "q", "r")
	switch s.Intn(24) {
	case 0:
		return s.pick("Z", "f", "F", "q", "r", "L", "a0", "m1")
	case 1:
		return s.pick("p", "q", "r", "Z", "f", "T") + "." + s.pick("T", "U", "t", "f", "F", "Z", "q")
	case 2, 3:
		return other + "." + s.pick(s.types[other]...)
	case 4, 5, 6:
		if other > dir {
			return other + "." + strings.ToUpper(s.pick(s.types[other]...))
		}
	case 7, 8, 9, 10, 11:
		return s.pick(s.types[dir]...)
	}
	return s.pick("int", "bool", "string", "float64")
}

// isOfName tells whether a byte may be in a name.
func isOfName(c byte) bool {
	return c == '_' || c >= '0' && c <= '9' || c >= 'A' && c <= 'Z' || c >= 'a' && c <= 'z'
}

// mend takes a fault's cause away: a type that may not be becomes int, a method of it goes, and a struct of which the
// fault is has one field then, or none.
func mend(docs []api.Doc, f api.Fault) {
	text := docs[f.Doc].Text
	from, to := f.At, f.At
	ofType := func(at int) bool { return at >= 0 && at < len(text) && (isOfName(text[at]) || text[at] == '.') }
	for ofType(from - 1) {
		from--
	}
	for ofType(to) {
		to++
	}
	line := strings.LastIndexByte(text[:f.At], '\n') + 1
	end := f.At + strings.IndexByte(text[f.At:], '\n')
	fresh := "int"
	switch {
	case f.E == api.ErrCycle:
		to, fresh = end, text[from:to]+" struct { }"
	case f.E == api.ErrLong:
		to, fresh = end, text[from:to]+" struct { a0 bool }"
	case strings.HasPrefix(text[line:], "func (") && !strings.Contains(text[line:f.At], ")"):
		from, to, fresh = line, end, ""
	}
	docs[f.Doc].Text = text[:from] + fresh + text[to:]
}
