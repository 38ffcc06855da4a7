package macro

import (
	"slices"

	"smocking/api"
)

// scene is the tokens of a view.
type scene struct {
	tokens []api.Token
	view   []int
}

// look returns the tokens of a view that has a name at a place.
func look(l []api.Token, view []int, k int) (scene, api.Errno) {
	if !isView(l, view) {
		return scene{}, api.ErrForm
	}
	if k < 0 || k >= len(view) {
		return scene{}, api.ErrRange
	}
	if l[view[k]].Kind != api.KName {
		return scene{}, api.ErrNone
	}
	return scene{l, view}, api.OK
}

// isView tells whether a list is ascending places of tokens. Layer cond puts no directives among them, but one that is
// there is no error: it is a token like others, and none of the things told.
func isView(l []api.Token, view []int) bool {
	last := -1
	for _, at := range view {
		if at <= last || at >= len(l) {
			return false
		}
		last = at
	}
	return true
}

// at returns the token at a place of the view. Beyond the view it is like KEnd.
func (s scene) at(k int) api.Token {
	if k < 0 || k >= len(s.view) {
		return api.Token{}
	}
	return s.tokens[s.view[k]]
}

// Call returns the place in the view behind a use or its call (P4.2).
func Call(l []api.Token, view []int, k int) (int, api.Errno) {
	s, bad := look(l, view, k)
	if bad != api.OK {
		return 0, bad
	}
	return s.callEnd(k), api.OK
}

// callEnd returns the place behind the use at a place, or behind its call.
func (s scene) callEnd(k int) int {
	if !isOneOf(s.at(k+1), "(") {
		return k + 1
	}
	open := 0
	for i := k + 1; i < len(s.view); i++ {
		open = countOpen(open, s.at(i), "(", ")")
		if open == 0 {
			return i + 1
		}
	}
	return k + 1
}

// callEnds returns callEnd of all places, going through the view only once.
func (s scene) callEnds() []int {
	ends := make([]int, len(s.view))
	var open []int
	for i := range s.view {
		ends[i] = i + 1
		last := len(open) - 1
		if isOneOf(s.at(i), "(") {
			open = append(open, i)
		} else if isOneOf(s.at(i), ")") && last >= 0 {
			if open[last] > 0 {
				ends[open[last]-1] = i + 1
			}
			open = open[:last]
		}
	}
	return ends
}

// isOutermost tells whether no brace is open before a place.
func (s scene) isOutermost(k int) bool {
	open := 0
	for i := range k {
		open = countOpen(open, s.at(i), "{", "}")
	}
	return open == 0
}

// countOpen returns how many opening signs are open behind a token, from how many there are before it.
func countOpen(open int, t api.Token, opening, closing string) int {
	if t.Kind != api.KSign {
		return open
	}
	switch t.Text {
	case opening:
		return open + 1
	case closing:
		return max(0, open-1)
	}
	return open
}

// isOneOf tells whether a token is one of some signs and keys.
func isOneOf(t api.Token, words ...string) bool {
	return (t.Kind == api.KSign || t.Kind == api.KKey) && slices.Contains(words, t.Text)
}
