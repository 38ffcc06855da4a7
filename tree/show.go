package tree

import (
	"strings"

	"smocking/api"
	"smocking/lex"
)

// Text returns a node's text, with all that stands between its tokens (P6.2).
func Text(l []api.Token, n api.Node) (string, api.Errno) {
	if !inTokens(l, n) {
		return "", api.ErrForm
	}
	if n.From == n.To {
		return "", api.OK
	}
	first := l[n.From].Text
	return first + lex.Text(l[n.From+1:n.To]), api.OK
}

// Short returns the texts of a node's seen tokens with single blanks between (P6.2).
func Short(l []api.Token, view []int, n api.Node) (string, api.Errno) {
	if !inTokens(l, n) || !isView(l, view) {
		return "", api.ErrForm
	}
	var texts []string
	for _, at := range view {
		if n.From <= at && at < n.To {
			texts = append(texts, l[at].Text)
		}
	}
	return strings.Join(texts, " "), api.OK
}

// isView tells whether a list is ascending places of tokens.
func isView(l []api.Token, view []int) bool {
	last := -1
	for _, at := range view {
		if at <= last || at >= len(l) {
			return false
		}
		last = at
	}
	return true
}
