package macro

import (
	"smocking/api"
)

// Kinds of uses.
const (
	Value = iota
	Loop
	Statement
	Attribute
	Declarer
)

// use is a name in a view with what stands around it.
type use struct {
	name    string
	hasCall bool
	// first says that nothing is seen before the use; otherwise last is.
	first bool
	last  api.Token
	// next is seen behind the use or its call; nothing is like KEnd.
	next        api.Token
	isOutermost func() bool
}

// useAt returns the use at a place, behind which, or behind its call, is the place end.
func (s scene) useAt(k, end int, isOutermost func() bool) use {
	return use{
		name:        s.at(k).Text,
		hasCall:     end > k+1,
		first:       k == 0,
		last:        s.at(k - 1),
		next:        s.at(end),
		isOutermost: isOutermost,
	}
}

// Guess tells the kind of a use by what stands around it (P4.2).
func Guess(l []api.Token, view []int, k int) (int, api.Errno) {
	s, bad := look(l, view, k)
	if bad != api.OK {
		return 0, bad
	}
	u := s.useAt(k, s.callEnd(k), func() bool { return s.isOutermost(k) })
	return u.kind(), api.OK
}

// kind asks for a declarer before statements and attributes, as it goes ahead of them.
func (u use) kind() int {
	switch {
	case u.isLoop():
		return Loop
	case u.isDeclarer():
		return Declarer
	case u.isStatement():
		return Statement
	case u.isAttribute():
		return Attribute
	}
	return Value
}

func (u use) isLoop() bool {
	return u.hasCall && isOneOf(u.next, "{") && isOneOf(u.last, ";", "{", "}", ")", "else", "do", ":")
}

// isDeclarer asks last for the open braces, since those may be far to count.
func (u use) isDeclarer() bool {
	return u.hasCall && u.isBehindItem() && !isOneOf(u.next, "{") && Capital(u.name) && u.isOutermost()
}

func (u use) isStatement() bool {
	if !isOneOf(u.last, ";", "{", "}", "else", "do", ":") || !Capital(u.name) {
		return false
	}
	if !u.hasCall && (beginsDeclaration(u.next) || isOneOf(u.next, "*")) {
		return false
	}
	return beginsStatement(u.next) || isOneOf(u.next, "}")
}

func (u use) isAttribute() bool {
	if !Capital(u.name) {
		return false
	}
	if isOneOf(u.next, ";", "{", ",", "=") {
		return u.last.Kind == api.KName || isOneOf(u.last, ")", "]")
	}
	return !u.hasCall && beginsDeclaration(u.next) && u.isBehindItem()
}

// isBehindItem tells whether an item may end before the use.
func (u use) isBehindItem() bool {
	return u.first || isOneOf(u.last, ";", "}")
}

// beginsStatement tells whether a token begins a statement anew: else and while may go on with the one before.
func beginsStatement(t api.Token) bool {
	if t.Kind == api.KKey {
		return !isOneOf(t, "else", "while")
	}
	return t.Kind == api.KName || isOneOf(t, "{", "*", "++", "--")
}

func beginsDeclaration(t api.Token) bool {
	return t.Kind == api.KName || isOneOf(t, "char", "const", "int", "long", "short", "signed", "struct", "union",
		"unsigned", "void", "volatile", "static", "extern", "enum")
}

// Capital tells whether a text is capital letters, digits and _, as names of macros are (P4.3).
func Capital(s string) bool {
	hasLetter := false
	for i, r := range s {
		switch {
		case 'A' <= r && r <= 'Z':
			hasLetter = true
		case r == '_' || '0' <= r && r <= '9' && i > 0:
		default:
			return false
		}
	}
	return hasLetter
}
