package text

import (
	"iter"
	"strings"

	"smocking/api"
)

// Lines returns the lines of a text, each with its line feed (P1.1).
func Lines(s string) []string {
	var l []string
	for line := range eachLine(s) {
		l = append(l, line)
	}
	return l
}

// Place tells the line of a byte, from 1 on, and how many bytes are before it in its line (P1.1). The place behind
// the last byte is told as if a byte stood there.
func Place(s string, at int) (line, column int, e api.Errno) {
	if at < 0 || at > len(s) {
		return 0, 0, api.ErrRange
	}
	before := s[:at]
	return strings.Count(before, "\n") + 1, at - (strings.LastIndexByte(before, '\n') + 1), api.OK
}

// eachLine is the sequence of a text's lines: whoever only counts or looks need not keep them all.
func eachLine(s string) iter.Seq[string] {
	return func(yield func(string) bool) {
		for rest := s; rest != ""; {
			end := strings.IndexByte(rest, '\n') + 1
			if end == 0 {
				end = len(rest)
			}
			if !yield(rest[:end]) {
				return
			}
			rest = rest[end:]
		}
	}
}

// moreLines tells whether a text has more than limit lines.
func moreLines(s string, limit int) bool {
	n := 0
	for range eachLine(s) {
		n++
		if n > limit {
			return true
		}
	}
	return false
}

// hasEnd tells whether a line has its line feed.
func hasEnd(line string) bool {
	return strings.HasSuffix(line, "\n")
}
