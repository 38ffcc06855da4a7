package lex

import (
	"smocking/api"
)

// At returns the token in whose Before or Text a byte is (P2.2).
func At(l []api.Token, at int) (int, api.Errno) {
	size, ok := wholeSize(l)
	if !ok {
		return 0, api.ErrForm
	}
	if at < 0 || at > size {
		return 0, api.ErrRange
	}
	i := len(l) - 1
	for l[i].At-len(l[i].Before) > at {
		i--
	}
	return i, api.OK
}

// wholeSize tells how many bytes the text of a list has that is all tokens of a text.
func wholeSize(l []api.Token) (size int, ok bool) {
	last := len(l) - 1
	for i, t := range l {
		size += len(t.Before)
		if t.At != size || (t.Kind == api.KEnd) != (i == last) {
			return 0, false
		}
		size += len(t.Text)
	}
	return size, len(l) > 0 && l[last].Text == ""
}

// Strip returns the texts of all tokens but preprocessor lines and the end (P2.3).
func Strip(l []api.Token) []string {
	var texts []string
	for _, t := range l {
		if t.Kind != api.KLine && t.Kind != api.KEnd {
			texts = append(texts, t.Text)
		}
	}
	return texts
}
