package cond

import (
	"strings"

	"smocking/api"
	"smocking/lex"
)

// Kind tells the kind of a directive, "" for another token (P3.1).
func Kind(t api.Token) string {
	if t.Kind != api.KLine {
		return ""
	}
	words, _ := Words(t)
	if len(words) == 0 {
		return "other"
	}
	switch first := words[0].Text; first {
	case "if", "ifdef", "ifndef", "elif", "else", "endif", "define", "undef", "include":
		return first
	}
	return "other"
}

// opens tells whether a directive of a kind opens a group.
func opens(kind string) bool {
	return kind == "if" || kind == "ifdef" || kind == "ifndef"
}

// Words returns the words of a directive (P3.1).
func Words(t api.Token) ([]api.Token, api.Errno) {
	line, ok := strings.CutPrefix(t.Text, "#")
	if t.Kind != api.KLine || !ok {
		return nil, api.ErrForm
	}
	// A further # at the beginning of a line would be a line for Scan, so it sees a byte there that is odd by itself.
	words, bad := lex.Scan(strings.ReplaceAll(line, "#", "@"))
	if bad != api.OK {
		return nil, bad
	}
	from := 0
	for i := range words {
		w := &words[i]
		to := w.At + len(w.Text)
		w.Before, w.Text = line[from:w.At], line[w.At:to]
		if w.Text == "#" {
			w.Kind = api.KSign
		}
		from = to
	}
	return words[:len(words)-1], api.OK
}
