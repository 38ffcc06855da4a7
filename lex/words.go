package lex

// keyWords are the names that are keys, in the document's order.
var keyWords = []string{
	"break", "case", "char", "const", "continue", "default", "do", "else", "enum", "extern", "for", "goto", "if",
	"int", "long", "return", "short", "signed", "sizeof", "static", "struct", "switch", "typedef", "union",
	"unsigned", "void", "volatile", "while",
}

// signWords are the signs in the document's order, longer ones first.
var signWords = []string{
	"...", "<<=", ">>=", "<<", ">>", "<=", ">=", "==", "!=", "&&", "||", "++", "--", "+=", "-=", "*=", "/=", "%=",
	"&=", "|=", "^=", "->", "+", "-", "*", "/", "%", "&", "|", "^", "!", "~", "<", ">", "=", "?", ":", ";", ",", ".",
	"(", ")", "[", "]", "{", "}", "#",
}

// Keys returns all keys (P2.2).
func Keys() []string {
	return append([]string(nil), keyWords...)
}

// Signs returns all signs (P2.2).
func Signs() []string {
	return append([]string(nil), signWords...)
}

// IsName tells whether a text is a name and no key (P2.2).
func IsName(s string) bool {
	for _, key := range keyWords {
		if s == key {
			return false
		}
	}
	return s != "" && wordSize(s) == len(s)
}

// keySet has all keys for those who ask for many words: for one word it is not worth its making.
func keySet() map[string]bool {
	set := make(map[string]bool, len(keyWords))
	for _, key := range keyWords {
		set[key] = true
	}
	return set
}

// wordSize tells how many bytes the name or key has with which a text begins: 0 if it begins otherwise.
func wordSize(s string) int {
	if s == "" || !isLetter(s[0]) {
		return 0
	}
	n := 1
	for n < len(s) && (isLetter(s[n]) || isDigit(s[n])) {
		n++
	}
	return n
}

// isLetter tells whether a byte may begin a name.
func isLetter(b byte) bool {
	return 'a' <= b && b <= 'z' || 'A' <= b && b <= 'Z' || b == '_'
}

func isDigit(b byte) bool {
	return '0' <= b && b <= '9'
}
