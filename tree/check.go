package tree

import (
	"smocking/api"
)

const maxLevels = api.MaxNest + 2

// Check tells what is wrong with a tree over tokens (P6.1).
func Check(l []api.Token, n api.Node) api.Errno {
	count := 0
	for path := range preorder(n) {
		count++
		if count > api.MaxNodes || len(path)+1 > maxLevels {
			return api.ErrLimit
		}
	}
	if !inTokens(l, n) || !hasPartsInside(l, n) {
		return api.ErrForm
	}
	return api.OK
}

// inTokens tells whether a node's places are in order, and none is before the tokens or behind their end.
func inTokens(l []api.Token, n api.Node) bool {
	return 0 <= n.From && n.From <= n.To && n.To <= len(l)
}

// hasPartsInside tells of a node in the tokens whether its parts lie in it, in order and apart, and so theirs in them.
func hasPartsInside(l []api.Token, n api.Node) bool {
	behind := n.From
	for _, part := range n.L {
		if part.From < behind || !inTokens(l, part) || !endsIn(l, part, n) || !hasPartsInside(l, part) {
			return false
		}
		behind = part.To
	}
	return true
}

// endsIn tells whether a part goes no further than its node. A part without tokens is at the place of the next seen
// token: where a directive follows its node, this is behind both, though nothing of the part is (x: ahead of #endif and
// a closing brace).
func endsIn(l []api.Token, part, n api.Node) bool {
	if part.To <= n.To {
		return true
	}
	return part.From == part.To && l[n.To].Kind == api.KLine
}
