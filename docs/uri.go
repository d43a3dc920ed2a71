package docs

import (
	"strings"

	"emend/api"
)

// What stands around both names of a URI, and between them.
const (
	head    = "file:///"
	between = "/"
	tail    = ".go"
)

// nameless is the one text of a name's characters that is none.
const nameless = "_"

// Dir is the directory of a URI, and whether it is one.
func Dir(uri string) (string, bool) {
	rest, ok := strings.CutPrefix(uri, head)
	if !ok {
		return "", false
	}
	rest, ok = strings.CutSuffix(rest, tail)
	if !ok {
		return "", false
	}
	dir, file, ok := strings.Cut(rest, between)
	if !ok || !isName(dir) || isReserved(dir) || !isName(file) {
		return "", false
	}
	return strings.Clone(dir), true
}

// isURI tells whether a text is a URI.
func isURI(s string) bool {
	_, ok := Dir(s)
	return ok
}

// isName tells whether a text is a name; a reserved word is one here.
func isName(s string) bool {
	if s == "" || len(s) > api.MaxName || s == nameless {
		return false
	}
	for i := range len(s) {
		if !isLetter(s[i]) && (i == 0 || !isDigit(s[i])) {
			return false
		}
	}
	return true
}

// isLetter tells whether a name may begin with a character.
func isLetter(b byte) bool {
	return b == '_' || 'a' <= b && b <= 'z' || 'A' <= b && b <= 'Z'
}

// isDigit tells whether a character is a digit.
func isDigit(b byte) bool {
	return '0' <= b && b <= '9'
}

// isReserved tells whether a name is a reserved word.
func isReserved(name string) bool {
	switch name {
	case "bool", "break", "continue", "else", "false", "float64", "for", "func", "if", "import", "int", "len",
		"package", "panic", "print", "return", "string", "struct", "true", "type", "var":
		return true
	}
	return false
}
