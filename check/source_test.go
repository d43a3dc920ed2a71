package check

import (
	"math/rand"
	"slices"
	"strconv"
	"strings"

	"emend/api"
	"emend/ast"
	"emend/parser"
)

// source writes workspaces by a short rule: what is declared is as scope and types want it, and what stands in functions
// mostly fits, as types are called there: by the directory, too.
type source struct {
	*rand.Rand
	slips   int      // one choice of so many does not fit
	dirs    []string // of the packages: each imports those behind it
	dir     string
	structs []structure
	funcs   []function
	known   []variable // where the text is written, the innermost last
	deep    int        // how many blocks are open
	labels  []string   // of the loops around; nothing of one without
	result  string
	next    int
}

type variable struct {
	name, typ string
	deep      int
}

// structure is a type, called as others call it.
type structure struct {
	dir, name string
	fields    []variable
}

func (x structure) typ() string { return x.dir + "." + x.name }

// function is one, or a method of what it is own.
type function struct {
	dir, own, name string
	params         []string
	result         string
}

func (s *source) pick(l ...string) string { return l[s.Intn(len(l))] }

func (s *source) slip() bool { return s.slips > 0 && s.Intn(s.slips) == 0 }

// some are some of a list, at least one of them.
func (s *source) some(l ...string) []string {
	s.Shuffle(len(l), func(i, j int) { l[i], l[j] = l[j], l[i] })
	return l[:1+s.Intn(len(l))]
}

// isKnown tells whether a package may know what another one has: it imports those behind it.
func isKnown(dir, of string) bool { return dir <= of }

func isExported(name string) bool { return name[0] < 'a' }

// canName tells whether the package that is written may call a type by its name.
func (s *source) canName(typ string) bool {
	dir, name, far := strings.Cut(typ, ".")
	return !far || dir == s.dir || isKnown(s.dir, dir) && isExported(name)
}

// named is a type that the package which is written may call by its name.
func (s *source) named() string {
	l := []string{"int", "bool", "string", "float64"}
	for _, x := range s.structs {
		if s.canName(x.typ()) {
			l = append(l, x.typ())
		}
	}
	return s.pick(l...)
}

// spelt is how the package that is written calls a type.
func (s *source) spelt(typ string) string { return strings.TrimPrefix(typ, s.dir+".") }

// workspace is some documents of up to three packages.
func (s *source) workspace() (docs []api.Doc) {
	s.dirs = []string{"p", "q", "r"}[:1+s.Intn(3)]
	for _, dir := range slices.Backward(s.dirs) {
		s.dir = dir
		for _, name := range s.some("T", "U", "V", "t", "u") {
			x := structure{dir: dir, name: name}
			for _, field := range s.some("a", "b", "A", "B", "c")[s.Intn(2):] {
				x.fields = append(x.fields, variable{name: field, typ: s.named()})
			}
			s.structs = append(s.structs, x)
		}
		for _, name := range s.some("f", "g", "h", "F", "G", "H") {
			s.funcs = append(s.funcs, s.signature("", name))
		}
		for _, x := range s.structs {
			if x.dir == dir {
				for _, name := range s.some("m", "n", "M", "N")[s.Intn(2):] {
					s.funcs = append(s.funcs, s.signature(x.typ(), name))
				}
			}
		}
	}
	for _, dir := range s.dirs {
		docs = append(docs, s.files(dir)...)
	}
	return docs
}

func (s *source) signature(own, name string) function {
	f := function{dir: s.dir, own: own, name: name}
	for range s.Intn(4) {
		f.params = append(f.params, s.named())
	}
	if s.Intn(4) > 0 {
		f.result = s.named()
	}
	return f
}

// files are the documents of a package.
func (s *source) files(dir string) (docs []api.Doc) {
	s.dir = dir
	var l []string
	for _, x := range s.structs {
		if x.dir == dir {
			var fields []string
			for _, f := range x.fields {
				fields = append(fields, f.name+" "+s.spelt(f.typ))
			}
			l = append(l, "type "+x.name+" struct { "+strings.Join(fields, "; ")+" }")
		}
	}
	for _, f := range s.funcs {
		if f.dir == dir {
			l = append(l, s.function(f))
		}
	}
	s.Shuffle(len(l), func(i, j int) { l[i], l[j] = l[j], l[i] })
	half := s.Intn(len(l) + 1)
	for i, l := range [][]string{l[:half], l[half:]} {
		text := "package " + dir + "\n"
		for _, other := range s.dirs {
			if other > dir {
				text += "import \"" + other + "\"\n"
			}
		}
		docs = append(docs, api.Doc{URI: "file:///" + dir + "/" + string(rune('a'+i)) + ".go", Text: text + strings.Join(l, "\n") + "\n"})
	}
	return docs
}

func (s *source) function(f function) string {
	s.known, s.deep, s.labels, s.result = nil, 0, nil, f.result
	text := "func "
	if f.own != "" {
		text += "(" + s.declare(f.own) + " " + s.spelt(f.own) + ") "
	}
	var l []string
	for _, x := range f.params {
		l = append(l, s.declare(x)+" "+s.spelt(x))
	}
	return text + f.name + "(" + strings.Join(l, ", ") + ") " + s.spelt(f.result) + " " + s.block(2+s.Intn(3), f.result != "")
}

// declare is the name of a variable that is known from now on: mostly one that stands nowhere else.
func (s *source) declare(typ string) string {
	s.next++
	name := "v" + strconv.Itoa(s.next)
	if few := s.pick("x", "y", "z", "f", "F", "q", "T"); s.Intn(4) == 0 {
		name = few
		for _, x := range s.known {
			if x.name == few && x.deep == s.deep {
				name = "v" + strconv.Itoa(s.next)
			}
		}
	}
	s.known = append(s.known, variable{name, typ, s.deep})
	return name
}

// within writes what lies in a block of its own.
func (s *source) within(text func() string) string {
	known := len(s.known)
	s.deep++
	defer func() { s.deep, s.known = s.deep-1, s.known[:known] }()
	return text()
}

// block is some statements, each on lines of its own; the last one ends, if it is asked to.
func (s *source) block(size int, ends bool) string {
	return s.within(func() string {
		text := "{\n"
		for range s.Intn(size + 2) {
			text += s.stmt(size-1) + "\n"
		}
		if ends && !s.slip() {
			text += s.ending(size-1) + "\n"
		}
		return text + "}"
	})
}

// body is the block of a loop.
func (s *source) body(size int, label string) string {
	s.labels = append(s.labels, label)
	defer func() { s.labels = s.labels[:len(s.labels)-1] }()
	return s.block(size, false)
}

// ending is a statement that ends, most often.
func (s *source) ending(size int) string {
	if size > 0 {
		switch s.Intn(8) {
		case 0:
			return "if " + s.head("bool") + " " + s.block(size-1, true) + " else " + s.block(size-1, true)
		case 1:
			return "for " + s.body(size-1, "")
		case 2:
			s.next++
			label := s.pick("L", "M") + strconv.Itoa(s.next)
			return label + ": for " + s.body(size-1, label)
		case 3:
			return s.block(size-1, true)
		case 4:
			return "panic(" + s.expr("string", 1) + ")"
		}
	}
	if s.result == "" != s.slip() {
		return "return"
	}
	return "return " + s.expr(s.result, 2)
}

func (s *source) stmt(size int) string {
	if size > 0 {
		switch s.Intn(9) {
		case 0:
			return s.block(size-1, s.Intn(4) == 0)
		case 1:
			return "if " + s.head("bool") + " " + s.block(size-1, false)
		case 2:
			return "if " + s.head("bool") + " " + s.block(size-1, false) + " else if " + s.head("bool") + " " + s.block(size-1, false)
		case 3:
			return "for " + s.head("bool") + " " + s.body(size-1, "")
		case 4:
			return s.within(func() string { return s.long(size-1, "") })
		case 5:
			s.next++
			label := "L" + strconv.Itoa(s.next)
			return label + ": " + s.within(func() string { return s.long(size-1, label) })
		}
	}
	switch s.Intn(12) {
	case 0, 1:
		return s.assign(2, s.expr)
	case 2, 3:
		typ := s.named()
		value := s.pick("", " = "+s.expr(typ, 2))
		spelt := s.spelt(typ)
		if s.slip() {
			spelt = s.pick("q", "f", "x", "q.u", "q.T", "z.T", "T", "Z", "q.F")
		}
		return "var " + s.declare(typ) + " " + spelt + value
	case 4:
		typ := s.named()
		e := s.expr(typ, 3)
		return "var " + s.declare(typ) + " = " + e
	case 5, 6:
		return s.jump()
	case 7:
		return s.called("", 2)
	case 8:
		return "print(" + s.expr(s.pick("int", "bool", "string", "float64"), 2) + s.pick("", ", "+s.expr("int", 1)) + ")"
	}
	typ := s.any()
	e := s.expr(typ, 3)
	return s.declare(typ) + " := " + e
}

// any is any type that there is.
func (s *source) any() string {
	l := []string{"int", "bool", "string", "float64"}
	for _, x := range s.structs {
		l = append(l, x.typ())
	}
	return s.pick(l...)
}

// long is a for with two semicolons.
func (s *source) long(size int, label string) string {
	text := "for "
	switch s.Intn(3) {
	case 0:
		typ := s.named()
		e := s.head(typ)
		text += s.declare(typ) + " := " + e
	case 1:
		text += s.assign(1, func(typ string, _ int) string { return s.head(typ) })
	}
	text += ";" + s.pick("", " "+s.head("bool")) + ";"
	if s.Intn(2) == 0 {
		text += " " + s.assign(1, func(typ string, _ int) string { return s.head(typ) })
	}
	return text + " " + s.body(size, label)
}

// assign gives a variable, or a field, a value; if there is none it prints.
func (s *source) assign(deep int, value func(typ string, deep int) string) string {
	if len(s.known) == 0 {
		return "print(1)"
	}
	x := s.known[s.Intn(len(s.known))]
	path, typ := x.name, x.typ
	for range s.Intn(3) {
		if l := s.fields(typ, ""); len(l) > 0 {
			f := l[s.Intn(len(l))]
			path, typ = path+"."+f.name, f.typ
		}
	}
	return path + " = " + value(typ, deep)
}

// jump leaves a loop, or begins its next round, or returns.
func (s *source) jump() string {
	if len(s.labels) == 0 && !s.slip() {
		return s.ending(0)
	}
	to := ""
	if len(s.labels) > 0 {
		to = s.labels[s.Intn(len(s.labels))]
	}
	if s.slip() {
		to = s.pick("L", "f", "x", "")
	}
	return s.pick("break ", "continue ") + to
}

// fields are those of a type that are seen in the package that is written; of one type, if that is told.
func (s *source) fields(of, typ string) (l []variable) {
	for _, x := range s.structs {
		for _, f := range x.fields {
			seen := x.dir == s.dir || isExported(f.name)
			if x.typ() == of && (typ == "" || f.typ == typ) && (seen || s.slip()) {
				l = append(l, f)
			}
		}
	}
	return l
}

// head is an expression of a head.
func (s *source) head(typ string) string {
	e := s.expr(typ, 2)
	if strings.Contains(e, "{") {
		return "(" + e + ")"
	}
	return e
}

// expr is an expression that mostly is of a type.
func (s *source) expr(typ string, deep int) string {
	if s.slip() {
		switch s.Intn(5) {
		case 0:
			return s.called("", deep)
		case 1:
			return s.pick("q", "f", "T", "none", "p", "q.T", "x", "-g()", "print(1)", "F", "q.F", "q.none", "x.a", "T{}.m", "(f())")
		}
		typ = s.any()
	}
	forms := []func() string{func() string { return s.leaf(typ, deep) }, func() string { return s.leaf(typ, deep) }}
	if deep > 0 {
		forms = append(forms, func() string { return s.member(typ, deep-1) }, func() string { return s.called(typ, deep-1) },
			func() string { return "(" + s.expr(typ, deep-1) + ")" }, func() string { return s.operator(typ, deep-1) })
	}
	return forms[s.Intn(len(forms))]()
}

// leaf is a literal, or a variable.
func (s *source) leaf(typ string, deep int) string {
	for _, x := range slices.Backward(s.known) {
		if x.typ == typ && s.Intn(2) == 0 {
			return x.name
		}
	}
	switch typ {
	case "int":
		return s.pick("0", "1", "77")
	case "bool":
		return s.pick("true", "false")
	case "string":
		return s.pick(`""`, `"a"`)
	case "float64":
		return s.pick("0.5", "1.5e3")
	case "":
		return "0"
	}
	var keys []string
	for _, f := range s.fields(typ, "") {
		if deep > 0 && s.Intn(2) == 0 {
			keys = append(keys, f.name+": "+s.expr(f.typ, deep-1))
		}
	}
	if s.slip() {
		keys = append(keys, s.pick(append(keys, "a: 1", "m: 1", "none: x", "A: 1")...))
	}
	return s.spelt(typ) + "{" + strings.Join(keys, ", ") + "}"
}

// member is a field of a value.
func (s *source) member(typ string, deep int) string {
	for _, i := range s.Perm(len(s.structs)) {
		of := s.structs[i].typ()
		if l := s.fields(of, typ); len(l) > 0 && (s.canName(of) || s.slip()) {
			return s.chain(of, deep) + "." + l[s.Intn(len(l))].name
		}
	}
	return s.leaf(typ, deep)
}

// chain is an expression behind which a point may stand.
func (s *source) chain(typ string, deep int) string {
	e := s.expr(typ, deep)
	if strings.ContainsAny(e, " -!") {
		return "(" + e + ")"
	}
	return e
}

// called is a call of a function, or a method, that has a result of a type; of none, if there is no such one, a print.
func (s *source) called(typ string, deep int) string {
	for _, i := range s.Perm(len(s.funcs)) {
		f := s.funcs[i]
		if f.result != typ || !isKnown(s.dir, f.dir) || f.dir != s.dir && !isExported(f.name) && !s.slip() {
			continue
		}
		by := f.name
		switch {
		case f.own != "" && deep <= 0:
			continue
		case f.own != "":
			by = s.chain(f.own, deep-1) + "." + f.name
		case f.dir != s.dir:
			by = f.dir + "." + f.name
		}
		var args []string
		for _, x := range f.params {
			args = append(args, s.expr(x, deep-1))
		}
		if s.slip() {
			args = append(args, "1")
		}
		return by + "(" + strings.Join(args, ", ") + ")"
	}
	if typ == "" {
		return "print(1)"
	}
	return s.leaf(typ, deep)
}

// operator is an expression with an operator, or a builtin.
func (s *source) operator(typ string, deep int) string {
	l := map[string][]string{
		"int": {"int + int", "int - int", "int * int", "int / int", "int % int", "-int", "int(float64)", "int(int)", "len(string)"},
		"bool": {"int == int", "int < int", "float64 <= float64", "string > string", "bool && bool", "bool || bool", "!bool",
			"string != string", "bool == bool", "float64 >= float64", "any == any", "any != any"},
		"string":  {"string + string"},
		"float64": {"float64 + float64", "float64 - float64", "float64 * float64", "float64 / float64", "-float64", "float64(int)", "float64(float64)"},
	}[typ]
	if len(l) == 0 {
		return s.leaf(typ, deep)
	}
	form := s.pick(l...)
	if s.slip() {
		form = s.pick("int && int", "bool + bool", "string * string", "float64 % float64", "bool < bool", "string || string",
			"int == bool", "!int", "-bool", "-string", "len(int)", "int(string)", "float64(bool)", "any + any")
	}
	any := s.any()
	operand := func(typ string) string {
		if typ == "any" {
			typ = any
		}
		e := s.expr(typ, deep)
		if strings.ContainsAny(e, " -!") {
			return "(" + e + ")"
		}
		return e
	}
	switch {
	case strings.HasSuffix(form, ")"):
		name, arg, _ := strings.Cut(strings.TrimSuffix(form, ")"), "(")
		return name + "(" + s.expr(arg, deep) + ")"
	case form[0] == '-' || form[0] == '!':
		return form[:1] + operand(form[1:])
	}
	l = strings.Fields(form)
	return operand(l[0]) + " " + l[1] + " " + operand(l[2])
}

// mend takes a fault's cause away: what stands around it becomes something that has none.
func mend(docs []api.Doc, f api.Fault) {
	text := docs[f.Doc].Text
	root, _, _ := parser.Parse(text)
	var way []api.Node
	for n := range ast.Each(root) {
		if n.From <= f.At && f.At < n.To {
			way = append(way, n)
		}
	}
	for i, n := range slices.Backward(way) {
		up := way[max(i-1, 0)]
		from, to, fresh := n.From, n.To, ""
		switch {
		case n.Kind == api.NBlock && f.E == api.ErrFlow:
			from, to, fresh = f.At, f.At, "panic(\"\")\n"
		case n.Kind == api.NVar:
			fresh = "var " + n.Name + " int"
		case n.Kind == api.NDefine:
			fresh = n.Name + " := 1"
		case up.Kind == api.NFor && (n.Kind == api.NAssign || n.Kind == api.NCallStmt):
		case n.Kind == api.NAssign, n.Kind == api.NCallStmt, n.Kind == api.NBreak, n.Kind == api.NContinue:
			fresh = "print(1)"
		case n.Kind == api.NReturn:
			fresh = "panic(\"\")"
		case (up.Kind == api.NIf || up.Kind == api.NFor) && n.Kind >= api.NInt:
			fresh = "true"
		default:
			continue
		}
		docs[f.Doc].Text = text[:from] + fresh + text[to:]
		return
	}
}
