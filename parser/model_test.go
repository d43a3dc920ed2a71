package parser

import (
	"slices"
	"strconv"
	"strings"

	"emend/api"
	"emend/lexer"
)

// The model reads the chapter's grammar as a text, and tells by it, with Earley's sets of items, which tokens go on.

// grammarText is the chapter's, but for what it tells in words: args in a chain, and those of a call, are called cargs,
// a literal's brace lit{, and of a call it is told how it ends.
const grammarText = `
file    = "package" NAME ; { import ; } { ( type | func ) ; }
import  = "import" STRING
type    = "type" NAME "struct" "{" [ field { ; field } [ ; ] ] "}"
field   = NAME typ
typ     = "int" | "bool" | "string" | "float64" | NAME | NAME "." NAME
func    = "func" [ "(" NAME NAME ")" ] NAME "(" [ field { "," field } ] ")" [ typ ] block
block   = "{" [ stmt { ; stmt } [ ; ] ] "}"
stmt    = block | if | [ NAME ":" ] for | var | "return" [ e ] | ( "break" | "continue" ) [ NAME ] | define | simple
var     = "var" NAME ( typ [ "=" e ] | "=" e )
define  = NAME ":=" e
simple  = path "=" e | call
path    = NAME { "." NAME }
if      = "if" e block [ "else" ( if | block ) ]
for     = "for" [ e | [ define | simple ] ; [ e ] ; [ simple ] ] block
e       = e OP e | ( "-" | "!" ) e | chain
chain   = operand { "." NAME | cargs }
args    = "(" [ e { "," e } ] ")"
cargs   = "call(" [ e { "," e } ] ")"
operand = INT | FLOAT | STRING | "true" | "false" | NAME | "(" e ")" | literal | ( "int" | "float64" | "len" | "print" | "panic" ) args
literal = ( NAME | NAME "." NAME ) "lit{" [ NAME ":" e { "," NAME ":" e } ] "}"
call    = chain cargs | ( "print" | "panic" ) args
`

// operators are those that stand between two expressions.
const operators = " || && == != < <= > >= + - * / % "

// production is what a symbol may be made of. Symbols with a quotation mark are marks and words.
type production struct {
	name string
	row  []string
}

// ebnf reads a grammar's text.
type ebnf struct {
	words []string
	made  []production
}

// grammar is the chapter's, by the names of what is made.
var grammar = readGrammar()

func readGrammar() map[string][]production {
	g := &ebnf{}
	for _, line := range strings.Split(strings.TrimSpace(grammarText), "\n") {
		g.words = strings.Fields(line)
		name := g.words[0]
		g.words = g.words[2:]
		g.alternatives(name)
	}
	by := map[string][]production{}
	for _, p := range g.made {
		by[p.name] = append(by[p.name], p)
	}
	return by
}

// alternatives reads rows with bars between, up to what closes them.
func (g *ebnf) alternatives(name string) {
	row := []string{}
	for len(g.words) > 0 {
		word := g.words[0]
		g.words = g.words[1:]
		switch word {
		case "|":
			g.made = append(g.made, production{name, row})
			row = []string{}
		case ")", "]", "}":
			g.made = append(g.made, production{name, row})
			return
		case "(", "[", "{":
			inner := "in" + strconv.Itoa(len(g.made)) + "/" + strconv.Itoa(len(g.words))
			g.alternatives(inner)
			outer := inner + word
			switch word {
			case "[":
				g.made = append(g.made, production{outer, nil}, production{outer, []string{inner}})
			case "{":
				g.made = append(g.made, production{outer, nil}, production{outer, []string{outer, inner}})
			case "(":
				outer = inner
			}
			row = append(row, outer)
		default:
			row = append(row, word)
		}
	}
	g.made = append(g.made, production{name, row})
}

// isTerminal tells whether a symbol stands for a token.
func isTerminal(symbol string) bool {
	return symbol[0] == '"' || strings.Contains(" NAME INT FLOAT STRING OP ; ", " "+symbol+" ")
}

// fits tells whether a token, of those of a row, may stand where a symbol does.
func fits(symbol string, l []lexer.Token, at int) bool {
	t := l[at]
	switch symbol {
	case "NAME":
		return t.Kind == lexer.KName
	case "INT":
		return t.Kind == lexer.KInt
	case "FLOAT":
		return t.Kind == lexer.KFloat
	case "STRING":
		return t.Kind == lexer.KString
	case ";":
		return t.Kind == lexer.KSemi
	case "OP":
		return t.Kind == lexer.KMark && strings.Contains(operators, " "+t.Text+" ")
	case `"call("`:
		// Behind a name that is one by itself, or was selected, alone.
		return t.Text == "(" && l[at-1].Kind == lexer.KName
	case `"lit{"`:
		return t.Text == "{" && !inHead(l, at)
	}
	return (t.Kind == lexer.KMark || t.Kind == lexer.KWord) && `"`+t.Text+`"` == symbol
}

// inHead tells whether a token stands between an if, or a for, and the block behind it, outside of brackets there.
func inHead(l []lexer.Token, at int) bool {
	closed := 0
	for at--; at >= 0; at-- {
		switch text := l[at].Text; {
		case text == ")":
			closed++
		case text == "(":
			if closed--; closed < 0 {
				return false
			}
		case closed > 0:
		case text == "if" || text == "for":
			return true
		case text == "{" || text == "}":
			return false
		}
	}
	return false
}

// item is a production of which a part has been met, and where that began.
type item struct {
	made *production
	dot  int
	from int
}

// sets are Earley's: of each token those items that may go on with it.
type sets struct {
	tokens []lexer.Token
	l      []map[item]bool
	order  [][]item
}

// start is what may begin a text.
func start() *sets {
	s := &sets{}
	s.push()
	for i := range grammar["file"] {
		s.add(item{&grammar["file"][i], 0, 0})
	}
	s.close()
	return s
}

func (s *sets) push() {
	s.l = append(s.l, map[item]bool{})
	s.order = append(s.order, nil)
}

// drop takes the last token away.
func (s *sets) drop() {
	s.tokens = s.tokens[:len(s.tokens)-1]
	s.l = s.l[:len(s.l)-1]
	s.order = s.order[:len(s.order)-1]
}

func (s *sets) add(i item) {
	last := len(s.l) - 1
	if !s.l[last][i] {
		s.l[last][i] = true
		s.order[last] = append(s.order[last], i)
	}
}

// close adds to the last set what follows from what is in it.
func (s *sets) close() {
	last := len(s.l) - 1
	for n := 0; n < len(s.order[last]); n++ {
		i := s.order[last][n]
		if i.dot == len(i.made.row) {
			for _, up := range s.order[i.from] {
				if up.dot < len(up.made.row) && up.made.row[up.dot] == i.made.name {
					s.add(item{up.made, up.dot + 1, up.from})
				}
			}
			continue
		}
		symbol := i.made.row[i.dot]
		if isTerminal(symbol) {
			continue
		}
		for m := range grammar[symbol] {
			made := &grammar[symbol][m]
			s.add(item{made, 0, last})
			// What is made of nothing is met at once.
			if len(made.row) == 0 {
				s.add(item{i.made, i.dot + 1, i.from})
			}
		}
	}
}

// step takes one token more, and tells whether it goes on.
func (s *sets) step(t lexer.Token) bool {
	s.tokens = append(s.tokens, t)
	s.push()
	at := len(s.tokens) - 1
	for _, i := range s.order[at] {
		if i.dot < len(i.made.row) && isTerminal(i.made.row[i.dot]) && fits(i.made.row[i.dot], s.tokens, at) {
			s.add(item{i.made, i.dot + 1, i.from})
		}
	}
	s.close()
	return len(s.order[at+1]) > 0
}

// whole tells whether all tokens are a file.
func (s *sets) whole() bool {
	return slices.ContainsFunc(s.order[len(s.order)-1], func(i item) bool {
		return i.made.name == "file" && i.dot == len(i.made.row) && i.from == 0
	})
}

// modelFault is the error of a text, and its place, as P11.1 tells them up to where depths are asked.
func modelFault(text string) (place int, e api.Errno) {
	l, place, e := lexer.Tokens(text)
	if e != api.OK {
		return place, e
	}
	s := start()
	for at, t := range l {
		if !s.step(t) {
			return t.From, api.ErrForm
		}
		if e := modelTokenFault(l, at); e != api.OK {
			return t.From, e
		}
	}
	if !s.whole() {
		return len(text), api.ErrForm
	}
	return 0, api.OK
}

// modelTokenFault is what is wrong with a token that goes on.
func modelTokenFault(l []lexer.Token, at int) api.Errno {
	if at > 0 && l[at-1].Text == "import" {
		value, _ := lexer.Value(l[at].Text)
		if !lexer.Name(value) {
			return api.ErrName
		}
	}
	open := 0
	for _, t := range l[:at+1] {
		if t.Kind != lexer.KMark {
			continue
		}
		switch t.Text {
		case "(", "{":
			open++
		case ")", "}":
			open--
		}
	}
	if (l[at].Text == "(" || l[at].Text == "{") && open > 128 {
		return api.ErrLong
	}
	return api.OK
}
