package tree

import (
	"slices"

	"smocking/api"
)

// label is what has to be the same in two nodes, besides their parts.
type label struct {
	op int
	s  string
	n  int
}

func labelOf(n api.Node) label {
	return label{n.Op, n.S, n.N}
}

// Alike tells whether two trees are the same but for places and parentheses (P6.3).
func Alike(a, b api.Node) bool {
	a, b = inside(a), inside(b)
	return labelOf(a) == labelOf(b) && slices.EqualFunc(a.L, b.L, Alike)
}

// Plain returns a tree without EParens and places (P6.3).
func Plain(n api.Node) api.Node {
	n = inside(n)
	n.From, n.To = 0, 0
	n.L = slices.Clone(n.L)
	for i, part := range n.L {
		n.L[i] = Plain(part)
	}
	return n
}

// inside returns what a node counts as: an EParen is its part, if it has just one.
func inside(n api.Node) api.Node {
	for n.Op == api.EParen && len(n.L) == 1 {
		n = n.L[0]
	}
	return n
}
