package lex

import (
	"strings"

	"smocking/api"
)

// line tells a preprocessor line.
func (c *scanner) line() (kind, size int) {
	if !c.fresh || c.text[c.at] != '#' {
		return 0, 0
	}
	return api.KLine, lineSize(c.text[c.at:])
}

// word tells a name or a key.
func (c *scanner) word() (kind, size int) {
	rest := c.text[c.at:]
	size = wordSize(rest)
	if c.keys[rest[:size]] {
		return api.KKey, size
	}
	return api.KName, size
}

func (c *scanner) number() (kind, size int) {
	return api.KNumber, numberSize(c.text[c.at:])
}

func (c *scanner) singleQuoted() (kind, size int) {
	return api.KChar, c.quoted('\'', &c.oddChars)
}

func (c *scanner) doubleQuoted() (kind, size int) {
	return api.KString, c.quoted('"', &c.oddStrings)
}

func (c *scanner) sign() (kind, size int) {
	rest := c.text[c.at:]
	for _, sign := range signWords {
		if strings.HasPrefix(rest, sign) {
			return api.KSign, len(sign)
		}
	}
	return 0, 0
}

// odd takes what no other one told.
func (c *scanner) odd() (kind, size int) {
	return api.KOdd, 1
}

// quoted tells how many bytes stand here from a quote to its second one: 0 if they do not. A quote further on in a
// line in which the first one found no second one stands behind a backslash, and would go the same way up to the
// line's end in vain: odd keeps where this was, so that no line is gone through again and again.
func (c *scanner) quoted(quote byte, odd *int) int {
	if c.text[c.at] != quote || c.at < *odd {
		return 0
	}
	size, ok := quotedSize(c.text[c.at:])
	if !ok {
		*odd = c.at + size
		return 0
	}
	return size
}

// quotedSize tells how many bytes a text has from its quote, the first byte, to the second one. Without one in the
// line it tells how many there are up to the line's end.
func quotedSize(s string) (size int, ok bool) {
	size = 1
	taken := false
	for size < len(s) && s[size] != '\n' {
		b := s[size]
		size++
		if b == s[0] && !taken {
			return size, true
		}
		taken = b == '\\' && !taken
	}
	return size, false
}

// lineSize tells how many bytes the preprocessor line has with which a text begins.
func lineSize(s string) int {
	end := 0
	for {
		end += sizeUpTo(s[end:], "\n")
		if end == len(s) {
			return end
		}
		line := strings.TrimSuffix(s[:end], "\r")
		if !strings.HasSuffix(line, "\\") {
			return len(line)
		}
		end++
	}
}

// numberSize tells how many bytes the number has with which a text begins: 0 if it begins otherwise.
func numberSize(s string) int {
	if !isDigit(s[0]) && !(s[0] == '.' && len(s) > 1 && isDigit(s[1])) {
		return 0
	}
	n := 1
	for n < len(s) && inNumber(s[n-1], s[n]) {
		n++
	}
	return n
}

// inNumber tells whether a number goes on with the byte b behind the byte last.
func inNumber(last, b byte) bool {
	switch b {
	case '+', '-':
		return last == 'e' || last == 'E'
	case '.':
		return true
	}
	return isLetter(b) || isDigit(b)
}
