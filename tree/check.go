package tree

import (
	"smocking/api"
)

const maxLevels = api.MaxNest + 2

// Check tells what is wrong with a tree over tokens (P6.1).
func Check(l []api.Token, n api.Node) api.Errno {
	count := 0
	for path := range preorder(n) {
		count++
		if count > api.MaxNodes || len(path)+1 > maxLevels {
			return api.ErrLimit
		}
	}
	if !inTokens(l, n) || !hasPartsInside(n) {
		return api.ErrForm
	}
	return api.OK
}

// inTokens tells whether a node's places are in order, and none is before the tokens or behind their end.
func inTokens(l []api.Token, n api.Node) bool {
	return 0 <= n.From && n.From <= n.To && n.To <= len(l)
}

// hasPartsInside tells whether a node's parts lie in it, in order and apart, and so theirs in them. This is asked of
// parts without tokens, too: Parse has such a part behind its node where what is not seen stands between a label and a
// closing brace, and this tree is not valid.
func hasPartsInside(n api.Node) bool {
	behind := n.From
	for _, part := range n.L {
		if part.From < behind || part.From > part.To || part.To > n.To || !hasPartsInside(part) {
			return false
		}
		behind = part.To
	}
	return true
}
