package ast

import (
	"fmt"
	"math/rand"
	"regexp"
	"slices"
	"strconv"
	"strings"

	"emend/api"
)

// The chapter's tables. A line of grammarRules: which tree it is; its kind, by its place among kindNames; which names it
// may have (nameFits); then its children. A line of grammarKin: the trees behind the first one are trees of that sort, too.
const (
	grammarRules = `
		file NFile name import* decl*
		import NImport name
		decl NType name field*
		decl NFunc name ownparam|nothing params type|nothing block
		field NField name type
		param NParam name type
		ownparam NParam name owntype
		params NParams - param*
		owntype NTypeName name
		type NTypeName basic
		fartype NTypeSel name ident
		block NBlock - stmt*
		stmt NVar name type e1
		stmt NVar name type nothing
		stmt NVar name nothing e1
		stmt NLabel name for
		stmt NBreak name
		stmt NBreak -
		stmt NContinue name
		stmt NContinue -
		stmt NReturn - e1
		stmt NReturn -
		if NIf - head:e1 block nothing|if|block
		for NFor - head:define|head:assign|head:call|nothing head:e1|nothing head:assign|head:call|nothing block
		define NDefine name e1
		assign NAssign - path e1
		path NIdent name
		path NSel name path
		call NCallStmt - docall
		docall NCall - ident|sel e1*
		docall NBuiltin print,panic e1*
		e1 NBinary || e1 e2
		e2 NBinary && e2 e3
		e3 NBinary ==,!=,<,<=,>,>= e3 e4
		e4 NBinary +,- e4 e5
		e5 NBinary *,/,% e5 e6
		e6 NUnary -,! e6
		e7 NInt int
		e7 NFloat float
		e7 NString string
		e7 NBool true,false
		ident NIdent name
		e7 NParen - e1
		sel NSel name e7
		e7 NCall - ident|sel e1*
		e7 NBuiltin int,float64,len,print,panic e1*
		e7 NLit - owntype|fartype keyed*
		keyed NKeyed name e1
		nothing NNone -`
	grammarKin = `
		e7 ident sel docall
		e6 e7
		e5 e6
		e4 e5
		e3 e4
		e2 e3
		e1 e2
		type owntype fartype
		stmt block if for define assign call`
	kindNames = `NNone NFile NImport NType NField NFunc NParams NParam NTypeName NTypeSel NBlock NVar NDefine NAssign NIf
		NFor NLabel NBreak NContinue NReturn NCallStmt NInt NFloat NString NBool NIdent NSel NCall NLit NKeyed NUnary
		NBinary NBuiltin NParen`
)

// sorts is a set of sorts of trees, each a bit.
type sorts uint64

// item is a child, or as many as there are, of one of some sorts.
type item struct {
	names []string
	any   sorts
	many  bool
}

// rule is how a tree of a sort may be made.
type rule struct {
	sort  string
	kind  int
	names string
	items []item
}

// kin is sorts of trees that are of a sort, too.
type kin struct {
	sort string
	of   []string
	any  sorts
}

var (
	bits  = sortBits()
	rules = readRules()
	kins  = readKins()
)

// headed are the sorts of which there are trees of a head, too.
var headed = []string{"e1", "define", "assign", "call"}

// sortBits are the bits of all sorts, those of a head, too.
func sortBits() map[string]sorts {
	l := map[string]sorts{}
	for _, words := range slices.Concat(lines(grammarRules), lines(grammarKin)) {
		if _, ok := l[words[0]]; !ok {
			l[words[0]] = 1 << len(l)
		}
	}
	for _, sort := range headed {
		l["head:"+sort] = 1 << len(l)
	}
	return l
}

// setOf is the set of some sorts.
func setOf(names []string) (all sorts) {
	for _, name := range names {
		if bits[name] == 0 {
			panic("no sort: " + name)
		}
		all |= bits[name]
	}
	return all
}

// lines are a text's lines that are not empty, each cut at blanks.
func lines(text string) (l [][]string) {
	for _, line := range strings.Split(strings.TrimSpace(text), "\n") {
		l = append(l, strings.Fields(line))
	}
	return l
}

func readRules() (l []rule) {
	kinds := strings.Fields(kindNames)
	for _, words := range lines(grammarRules) {
		r := rule{sort: words[0], kind: slices.Index(kinds, words[1]), names: words[2]}
		for _, word := range words[3:] {
			word, many := strings.CutSuffix(word, "*")
			names := strings.Split(word, "|")
			r.items = append(r.items, item{names, setOf(names), many})
		}
		l = append(l, r)
	}
	return l
}

func readKins() (l []kin) {
	for _, words := range lines(grammarKin) {
		l = append(l, kin{words[0], words[1:], setOf(words[1:])})
	}
	return l
}

var (
	nameForm    = regexp.MustCompile(`^[A-Za-z_][A-Za-z_0-9]{0,39}$`)
	intForm     = regexp.MustCompile(`^(0|[1-9][0-9]*)$`)
	floatForm   = regexp.MustCompile(`^(0|[1-9][0-9]*)\.[0-9]+(e[+-]?[0-9]{1,3})?$`)
	stringForm  = regexp.MustCompile(`^"([^\x00-\x1f\x7f"\\]|\\[nt\\"]|\\x[0-9a-f][0-9a-f])*"$`)
	stringPiece = regexp.MustCompile(`\\x..|\\.|[^\\]`)
	reserved    = strings.Fields("break continue else false float64 for func if import int bool string len package panic print return struct true type var")
)

// nameFits tells whether a name is one of those that a rule tells.
func nameFits(names, s string) bool {
	switch names {
	case "-":
		return s == ""
	case "name":
		return nameForm.MatchString(s) && s != "_" && !slices.Contains(reserved, s)
	case "basic":
		return slices.Contains([]string{"int", "bool", "string", "float64"}, s)
	case "int":
		_, err := strconv.ParseInt(s, 10, 64)
		return intForm.MatchString(s) && err == nil
	case "float":
		_, err := strconv.ParseFloat(s, 64)
		return floatForm.MatchString(s) && len(s) <= 60 && err == nil
	case "string":
		long := 0
		for _, piece := range stringPiece.FindAllString(s, -1) {
			if piece[0] == '\\' {
				piece = "."
			}
			long += len(piece)
		}
		return stringForm.MatchString(s) && strings.ToValidUTF8(s, "") == s && long <= 4096+2
	}
	return slices.Contains(strings.Split(names, ","), s)
}

// sortsOf are all sorts of which a tree is.
func sortsOf(n api.Node) (all sorts) {
	kids := make([]sorts, len(n.Kids))
	for i, kid := range n.Kids {
		kids[i] = sortsOf(kid)
	}
	for _, r := range rules {
		if r.kind == n.Kind && rowFits(r.items, kids) && nameFits(r.names, n.Name) {
			all |= bits[r.sort]
		}
	}
	for _, k := range kins {
		if all&k.any != 0 {
			all |= bits[k.sort]
		}
	}
	for _, sort := range headed {
		if all&bits[sort] != 0 && !isBare(n, false) {
			all |= bits["head:"+sort]
		}
	}
	return all
}

// isOf tells whether a tree is of a sort.
func isOf(n api.Node, sort string) bool { return sortsOf(n)&bits[sort] != 0 }

// rowFits tells whether items may be laid over a row of children, of each of which its sorts are told.
func rowFits(items []item, kids []sorts) bool {
	if len(items) == 0 {
		return len(kids) == 0
	}
	if items[0].many && rowFits(items[1:], kids) {
		return true
	}
	if len(kids) == 0 || kids[0]&items[0].any == 0 {
		return false
	}
	return items[0].many && rowFits(items, kids[1:]) || rowFits(items[1:], kids[1:])
}

// isBare tells whether a literal stands in a tree that no bracket in it is around.
func isBare(n api.Node, around bool) bool {
	if n.Kind == api.NLit && !around {
		return true
	}
	for i, kid := range n.Kids {
		brackets := n.Kind == api.NParen || n.Kind == api.NBuiltin || n.Kind == api.NCall && i > 0
		if isBare(kid, around || brackets) {
			return true
		}
	}
	return false
}

// modelDepth is how many nodes the longest way down has that ends ahead of nothing.
func modelDepth(n api.Node) int {
	deepest := 0
	var down func(n api.Node, above int)
	down = func(n api.Node, above int) {
		if n.Kind == api.NNone {
			deepest = max(deepest, above)
			return
		}
		deepest = max(deepest, above+1)
		for _, kid := range n.Kids {
			down(kid, above+1)
		}
	}
	down(n, 0)
	return deepest
}

// modelCheck is what Check tells.
func modelCheck(n api.Node) api.Errno {
	if modelDepth(n) > 64 {
		return api.ErrLong
	}
	if !isOf(n, "file") {
		return api.ErrForm
	}
	return api.OK
}

// shown is all that Same looks at.
func shown(n api.Node) string {
	kids := make([]string, len(n.Kids))
	for i, kid := range n.Kids {
		kids[i] = shown(kid)
	}
	return fmt.Sprintf("%d%q(%s)", n.Kind, n.Name, strings.Join(kids, " "))
}

// whole is a tree with all of its places.
func whole(n api.Node) string {
	kids := make([]string, len(n.Kids))
	for i, kid := range n.Kids {
		kids[i] = whole(kid)
	}
	return fmt.Sprintf("%d%q[%d %d %d](%s)", n.Kind, n.Name, n.From, n.At, n.To, strings.Join(kids, " "))
}

// wholes are some trees with all of their places.
func wholes(l []api.Node) (all []string) {
	for _, n := range l {
		all = append(all, whole(n))
	}
	return all
}

// modelEach is what Each goes through.
func modelEach(n api.Node) (l []api.Node) {
	if n.Kind != api.NNone {
		l = append(l, n)
	}
	for _, kid := range n.Kids {
		l = append(l, modelEach(kid)...)
	}
	return l
}

// modelPath is what Path tells.
func modelPath(n api.Node, from, to int) []api.Node {
	if n.Kind == api.NNone || !(n.From <= from && from <= to && to <= n.To) {
		return nil
	}
	for _, kid := range n.Kids {
		if l := modelPath(kid, from, to); len(l) > 0 {
			return append([]api.Node{n}, l...)
		}
	}
	return []api.Node{n}
}

// modelPlaced is what Placed tells.
func modelPlaced(n api.Node, size int) bool {
	if n.Kind == api.NNone {
		return true
	}
	ok := 0 <= n.From && n.From <= n.At && n.At <= n.To && n.To <= size
	var there []api.Node
	for _, kid := range n.Kids {
		ok = ok && modelPlaced(kid, size)
		if kid.Kind == api.NNone {
			continue
		}
		ok = ok && kid.From >= n.From && kid.To <= n.To
		for _, ahead := range there {
			ok = ok && kid.From >= ahead.To
		}
		there = append(there, kid)
	}
	return ok
}

// goodNames are some that a rule lets by, of each of nameFits.
func goodNames(names string) []string {
	switch names {
	case "-":
		return []string{""}
	case "name":
		return []string{"x", "T", "_a9", strings.Repeat("n", 40)}
	case "basic":
		return []string{"int", "bool", "string", "float64"}
	case "int":
		return []string{"0", "12", "9223372036854775807"}
	case "float":
		return []string{"0.0", "1.5e3", "12.25e-007", "1." + strings.Repeat("1", 58)}
	case "string":
		return []string{`""`, `"a b"`, `"\n\t\\\"\x0a"`, `"é"`}
	}
	return strings.Split(names, ",")
}

// oddNames are texts that are no names of most nodes.
var oddNames = []string{
	"", "_", "for", "int", "bool", "string", "float64", "len", "print", "panic", "true", "false", "struct", "x", "T", "é",
	strings.Repeat("n", 40), strings.Repeat("n", 41), " x", "x ", "x\n", "x;", "x y", "x.y", "1x", "0", "12", "-1", "01", "1 ",
	" 1", "1;", "1\n", "1//", "1 2", "9223372036854775808", "1.5", "1.5 ", "1.", ".5", "01.5", "1.5e", "1.5e3", "1e5", "1.5e0001",
	"1.5e999", "1.2.3", `""`, `"a"`, `"a" `, `"a";`, `"a""b"`, `"a`, `a"`, `"\q"`, "\"\n\"", "\"\xff\"", "\"\xed\xa0\x80\"", "'a'",
	`"` + strings.Repeat("a", 4096) + `"`, `"` + strings.Repeat("a", 4097) + `"`,
	"||", "&&", "==", "!=", "<", "<=", ">", ">=", "+", "-", "*", "/", "%", "!", "=", ":=", "&", "|", "+ ", "- ", "||&&", ",",
	";", "\xff", "\x00", "import", "else", "true ", "print,panic", "-,!",
}

// choices are the rules and the other sorts by which a tree of a sort may be made.
func choices(sort string) (ways []rule, others []string) {
	for _, r := range rules {
		if r.sort == sort {
			ways = append(ways, r)
		}
	}
	for _, k := range kins {
		if k.sort == sort {
			others = append(others, k.of...)
		}
	}
	return ways, others
}

// least is the depth of the lowest trees of each sort.
var least = leastDepths()

func leastDepths() map[string]int {
	low := map[string]int{"nothing": 0}
	known := func(sort string) int {
		if d, ok := low[strings.TrimPrefix(sort, "head:")]; ok {
			return d
		}
		return 1000
	}
	for range 20 {
		for _, r := range rules {
			if r.sort != "nothing" {
				low[r.sort] = min(known(r.sort), ruleDepth(r, known))
			}
		}
		for _, k := range kins {
			for _, of := range k.of {
				low[k.sort] = min(known(k.sort), known(of))
			}
		}
	}
	return low
}

// ruleDepth is the depth of the lowest trees of a rule, that of those of a sort being known.
func ruleDepth(r rule, known func(sort string) int) int {
	deepest := 0
	for _, i := range r.items {
		if !i.many {
			lowest := 1000
			for _, sort := range i.names {
				lowest = min(lowest, known(sort))
			}
			deepest = max(deepest, lowest)
		}
	}
	return deepest + 1
}

// grow makes a tree of a sort, that is no deeper than so many nodes, or than such trees have to be.
func grow(r *rand.Rand, sort string, most int) api.Node {
	if inner, ok := strings.CutPrefix(sort, "head:"); ok {
		for {
			if n := grow(r, inner, most); !isBare(n, false) {
				return n
			}
		}
	}
	most = max(most, least[sort])
	ways, others := choices(sort)
	ways = slices.DeleteFunc(ways, func(w rule) bool { return ruleDepth(w, leastOf) > most })
	others = slices.DeleteFunc(others, func(other string) bool { return least[other] > most })
	at := r.Intn(len(ways) + len(others))
	if at >= len(ways) {
		return grow(r, others[at-len(ways)], most)
	}
	return growRule(r, ways[at], most)
}

func leastOf(sort string) int { return least[strings.TrimPrefix(sort, "head:")] }

// growRule makes a tree of a rule, that is no deeper than so many nodes, or than such trees have to be.
func growRule(r *rand.Rand, by rule, most int) api.Node {
	most = max(most, ruleDepth(by, leastOf))
	names := goodNames(by.names)
	n := api.Node{Kind: by.kind, Name: names[r.Intn(len(names))]}
	for _, i := range by.items {
		names := slices.DeleteFunc(slices.Clone(i.names), func(sort string) bool { return leastOf(sort) >= most })
		times := 1
		if i.many {
			times = r.Intn(4) * min(len(names), 1)
		}
		for range times {
			n.Kids = append(n.Kids, grow(r, names[r.Intn(len(names))], most-1))
		}
	}
	return n
}

// allSorts are those of which a rule tells.
func allSorts() (l []string) {
	for _, r := range rules {
		if !slices.Contains(l, r.sort) {
			l = append(l, r.sort)
		}
	}
	return l
}

// deepCopy is a tree in memory of its own.
func deepCopy(n api.Node) api.Node {
	n.Kids = slices.Clone(n.Kids)
	for i, kid := range n.Kids {
		n.Kids[i] = deepCopy(kid)
	}
	return n
}

// changed is a copy of a tree with one of its nodes, counted as they are gone through, made another one.
func changed(n api.Node, at int, by func(n api.Node) api.Node) api.Node {
	n = deepCopy(n)
	var down func(m *api.Node)
	down = func(m *api.Node) {
		for i := range m.Kids {
			down(&m.Kids[i])
		}
		if at == 0 {
			*m = by(*m)
		}
		at--
	}
	down(&n)
	return n
}

// size is how many nodes a tree has, nothing counted, too.
func size(n api.Node) int {
	total := 1
	for _, kid := range n.Kids {
		total += size(kid)
	}
	return total
}

// spoil makes one of a tree's nodes another one.
func spoil(r *rand.Rand, n api.Node) api.Node {
	return changed(n, r.Intn(size(n)), func(m api.Node) api.Node {
		switch at := 0; r.Intn(8) {
		case 0:
			m.Kind = r.Intn(36) - 1
		case 1:
			m.Name = oddNames[r.Intn(len(oddNames))]
		case 2:
			m.Kids = append(m.Kids, grow(r, allSorts()[r.Intn(len(allSorts()))], 2))
		case 3:
			if len(m.Kids) > 0 {
				at = r.Intn(len(m.Kids))
				m.Kids = slices.Delete(m.Kids, at, at+1)
			}
		case 4:
			if len(m.Kids) > 1 {
				at = r.Intn(len(m.Kids) - 1)
				m.Kids[at], m.Kids[at+1] = m.Kids[at+1], m.Kids[at]
			}
		case 5:
			if len(m.Kids) > 0 {
				return m.Kids[r.Intn(len(m.Kids))]
			}
		case 6:
			return grow(r, allSorts()[r.Intn(len(allSorts()))], 3)
		case 7:
			m.Kids = slices.Insert(m.Kids, r.Intn(len(m.Kids)+1), api.Node{})
		}
		return m
	})
}

// scatter gives the nodes of a tree places about a text of so many bytes: mostly such that it is Placed.
func scatter(r *rand.Rand, n api.Node, from, to, wrong int) api.Node {
	n = deepCopy(n)
	n.From = from + r.Intn(to-from+1)/3
	n.To = to - r.Intn(to-n.From+1)/3
	n.At = n.From + r.Intn(n.To-n.From+1)
	free := n.From
	for i, kid := range n.Kids {
		if kid.Kind == api.NNone && r.Intn(2) == 0 {
			continue
		}
		end := free + r.Intn(n.To-free+1)
		if i == len(n.Kids)-1 {
			end = n.To
		}
		n.Kids[i] = scatter(r, kid, free, end, wrong)
		if kid.Kind != api.NNone {
			free = min(max(free, n.Kids[i].To), n.To)
		}
	}
	if wrong > 0 && r.Intn(wrong) == 0 {
		step := r.Intn(5) - 2
		switch r.Intn(3) {
		case 0:
			n.From += step
		case 1:
			n.At += step
		case 2:
			n.To += step
		}
	}
	return n
}
