package lex

import (
	"slices"

	"smocking/api"
	"smocking/text"
)

// Rescan makes an edit in a text whose tokens are l, and returns the new text and its tokens (P2.4).
func Rescan(s string, l []api.Token, e api.Edit) (string, []api.Token, api.Errno) {
	old, bad := Scan(s)
	if bad != api.OK || !slices.Equal(old, l) {
		return "", nil, api.ErrForm
	}
	changed, bad := text.Apply(s, []api.Edit{e})
	if bad != api.OK {
		return "", nil, bad
	}
	tokens, bad := Scan(changed)
	if bad != api.OK {
		return "", nil, bad
	}
	return changed, tokens, api.OK
}
