package lexer

import "emend/api"

// Reserved tells whether a text is a reserved word.
func Reserved(s string) bool {
	switch s {
	case "break", "continue", "else", "false", "float64", "for", "func", "if", "import", "int", "bool",
		"string", "len", "package", "panic", "print", "return", "struct", "true", "type", "var":
		return true
	}
	return false
}

// Name tells whether a text is a name that a declaration may have.
func Name(s string) bool {
	return s != "" && isLetter(s[0]) && pastWord(s, 0) == len(s) && !Reserved(s) && nameFault(s) == api.OK
}

// Exported tells whether a text is a name that other packages may ask for.
func Exported(s string) bool {
	return Name(s) && s[0] >= 'A' && s[0] <= 'Z'
}

// nameFault is why letters and digits, a letter first, that are no reserved word are no name.
func nameFault(s string) api.Errno {
	switch {
	case len(s) > api.MaxName:
		return api.ErrLong
	case s == "_":
		return api.ErrName
	}
	return api.OK
}

// isLetter tells whether a name may begin with a byte.
func isLetter(c byte) bool {
	return c >= 'a' && c <= 'z' || c >= 'A' && c <= 'Z' || c == '_'
}

// isDigit tells whether a byte is one of 0 to 9.
func isDigit(c byte) bool { return c >= '0' && c <= '9' }
