package tree

import (
	"iter"
	"slices"

	"smocking/api"
)

// At returns the node at a path (P6.1).
func At(n api.Node, path []int) (api.Node, api.Errno) {
	found, ok := find(n, path)
	if !ok {
		return api.Node{}, api.ErrNone
	}
	return clone(found), api.OK
}

// Paths returns the paths of all nodes of an Op, or of all nodes for 0, in preorder (P6.1).
func Paths(n api.Node, op int) [][]int {
	var paths [][]int
	for path, x := range preorder(n) {
		if op == 0 || x.Op == op {
			paths = append(paths, slices.Clone(path))
		}
	}
	return paths
}

// Replace exchanges the node at a path for another one (P6.1).
func Replace(n api.Node, path []int, m api.Node) (api.Node, api.Errno) {
	if _, ok := find(n, path); !ok {
		return api.Node{}, api.ErrNone
	}
	whole := clone(n)
	place := &whole
	for _, i := range path {
		place = &place.L[i]
	}
	*place = clone(m)
	return whole, api.OK
}

// Leaf returns the path of the deepest node that has a token (P6.2).
func Leaf(n api.Node, token int) ([]int, api.Errno) {
	has := func(x api.Node) bool { return x.From <= token && token < x.To }
	if !has(n) {
		return nil, api.ErrNone
	}
	var path []int
	for {
		i := slices.IndexFunc(n.L, has)
		if i < 0 {
			return path, api.OK
		}
		path = append(path, i)
		n = n.L[i]
	}
}

// preorder is the sequence of a tree's nodes with their paths. A path is good until the next one: whoever keeps it
// copies it.
func preorder(n api.Node) iter.Seq2[[]int, api.Node] {
	return func(yield func([]int, api.Node) bool) {
		walk(n, nil, yield)
	}
}

// walk goes on with a node that is at a path, and tells whether all of it was wanted.
func walk(n api.Node, path []int, yield func([]int, api.Node) bool) bool {
	if !yield(path, n) {
		return false
	}
	for i, part := range n.L {
		if !walk(part, append(path, i), yield) {
			return false
		}
	}
	return true
}

// find returns the node at a path, if there is one. It shares its parts with the tree.
func find(n api.Node, path []int) (found api.Node, ok bool) {
	for _, i := range path {
		if i < 0 || i >= len(n.L) {
			return api.Node{}, false
		}
		n = n.L[i]
	}
	return n, true
}

// clone returns a tree that shares no parts with its original.
func clone(n api.Node) api.Node {
	n.L = slices.Clone(n.L)
	for i, part := range n.L {
		n.L[i] = clone(part)
	}
	return n
}
