package lex

import (
	"strings"

	"smocking/api"
)

// Scan makes tokens of a text (P2.1).
func Scan(s string) ([]api.Token, api.Errno) {
	if len(s) > api.MaxText {
		return nil, api.ErrLimit
	}
	c := newScanner(s)
	var l []api.Token
	for len(l) < api.MaxTokens {
		t := c.next()
		l = append(l, t)
		if t.Kind == api.KEnd {
			return l, api.OK
		}
	}
	return nil, api.ErrLimit
}

// Text returns the text that tokens were made of (P2.1).
func Text(l []api.Token) string {
	var all strings.Builder
	for _, t := range l {
		all.WriteString(t.Before)
		all.WriteString(t.Text)
	}
	return all.String()
}

// scanner is at a place of a text, up to which its tokens have been told.
type scanner struct {
	text string
	at   int
	keys map[string]bool
	// fresh says that a # here would begin a preprocessor line.
	fresh bool
	// Up to these places quotes have no second one in their line.
	oddChars, oddStrings int
	// tellers are asked one by one what kind of token begins here, and how many bytes it has: 0 if it is not theirs.
	tellers []func() (kind, size int)
}

func newScanner(s string) *scanner {
	c := &scanner{text: s, keys: keySet(), fresh: true}
	c.tellers = []func() (kind, size int){c.line, c.word, c.number, c.singleQuoted, c.doubleQuoted, c.sign, c.odd}
	return c
}

// next returns the next token.
func (c *scanner) next() api.Token {
	from := c.at
	c.skip()
	t := api.Token{Kind: api.KEnd, Before: c.text[from:c.at], At: c.at}
	if c.at == len(c.text) {
		return t
	}
	size := 0
	for i := 0; size == 0; i++ {
		t.Kind, size = c.tellers[i]()
	}
	c.at += size
	c.fresh = false
	t.Text = c.text[t.At:c.at]
	return t
}

// skip goes over what stands before a token.
func (c *scanner) skip() {
	for c.at < len(c.text) {
		rest := c.text[c.at:]
		size := 1
		switch rest[0] {
		case ' ', '\t':
		case '\n':
			c.fresh = true
		case '\v', '\f', '\r':
			c.fresh = false
		case '\\':
			size = joinSize(rest)
			c.fresh = size > 0
		case '/':
			size = commentSize(rest)
			if strings.Contains(rest[:size], "\n") {
				c.fresh = true
			}
		default:
			return
		}
		if size == 0 {
			return
		}
		c.at += size
	}
}

// joinSize tells how many bytes a backslash at a line's end has, together with this end: 0 if there is none.
func joinSize(s string) int {
	if strings.HasPrefix(s, "\\\n") {
		return 2
	}
	if strings.HasPrefix(s, "\\\r\n") {
		return 3
	}
	return 0
}

// commentSize tells how many bytes the comment has with which a text begins: 0 if it begins otherwise.
func commentSize(s string) int {
	if strings.HasPrefix(s, "//") {
		return sizeUpTo(s, "\n")
	}
	if strings.HasPrefix(s, "/*") {
		if end := strings.Index(s[2:], "*/"); end >= 0 {
			return 2 + end + 2
		}
		return len(s)
	}
	return 0
}

// sizeUpTo tells how many bytes a text has before the first end, or in all without one.
func sizeUpTo(s, end string) int {
	if i := strings.Index(s, end); i >= 0 {
		return i
	}
	return len(s)
}
